/-
  A connection as it is told of, and the calls of a net as steps of it.
-/
import Derived.Test.YtcbnmoppnoiggaaDial
namespace Go.Proofs.Ytcbnmoppnoiggaa
open Go.RowKit
set_option linter.unusedVariables false
set_option linter.unusedSimpArgs false
structure Sm where
  us : List Int
  ar : List Int
  cl : Bool
  to : Bool
structure Md where
  nm : ByteArray
  wt : Bool
  ct : Bool
  d0 : Sm
  d1 : Sm
def Sd.m (d : Sd) : Sm := ⟨d.us, d.ar, d.cl, d.to⟩
def Cn.m (c : Cn) : Md := ⟨c.nm, c.wt, c.ct, c.s0.m, c.s1.m⟩
def Md.sd (c : Md) (s : Bool) : Sm := if s then c.d1 else c.d0
def Md.set (c : Md) (s : Bool) (d : Sm) : Md := if s then { c with d1 := d } else { c with d0 := d }
theorem Cn.m_sd (c : Cn) (s : Bool) : (c.sd s).m = c.m.sd s := by cases s <;> rfl
theorem Cn.m_set (c : Cn) (s : Bool) (d : Sd) : (c.set s d).m = c.m.set s d.m := by cases s <;> rfl
def mWrite (c : Md) (s : Bool) (ps : List Int) : Int × Md :=
  if c.ct then (40, c) else if (c.sd s).cl then (42, c) else if 1048576 < (c.sd s).us.length + ps.length then (3, c) else (0, c.set s { c.sd s with us := (c.sd s).us ++ ps })
def mClose (c : Md) (s : Bool) : Int × Md :=
  if c.ct then (40, c) else if (c.sd s).cl then (42, c) else (0, c.set s { c.sd s with cl := true })
def mK (c : Md) (s : Bool) (most : Int) : Nat := (min most (c.sd s).us.length).toNat
def mPass (c : Md) (s : Bool) (most : Int) : Int × Int × Md :=
  if most < 0 then (0, 2, c) else if c.ct then (0, 40, c) else
    ((mK c s most : Int), 0, (c.set (!s) { c.sd (!s) with ar := (c.sd (!s)).ar ++ (c.sd s).us.take (mK c s most) }).set s ⟨(c.sd s).us.drop (mK c s most), (c.sd s).ar, (c.sd s).cl, if mK c s most = (c.sd s).us.length then (c.sd s).cl else (c.sd s).to⟩)
def mRead (c : Md) (s : Bool) : List Int × Bool × Int × Md :=
  if c.ct then ([], false, 40, c) else ((c.sd s).ar, (c.sd (!s)).to, 0, c.set s { c.sd s with ar := [] })
def mCut (c : Md) : Int × Md := if c.ct then (40, c) else (0, ⟨⟨#[]⟩, false, true, ⟨[], [], false, false⟩, ⟨[], [], false, false⟩⟩)
def mUnder (c : Md) (s : Bool) : Int := if c.ct then 0 else (c.sd s).us.length

theorem Dialed.same {w : World} {base b : Nat} {row mv : Value} {cs : List Cn} (h : Net w base b row mv cs) : Dialed w w base b row mv cs row mv cs := ⟨h, Turn.refl _ _, fun _ h => .inl h⟩
theorem set_same {cs : List Cn} {i : Nat} {c : Cn} (h : cs[i]? = some c) : cs.set i c = cs := by
  obtain ⟨hi, rfl⟩ := List.getElem?_eq_some_iff.1 h
  simp
theorem Net.cnod {w : World} {base b : Nat} {row mv : Value} {cs : List Cn} (h : Net w base b row mv cs) {i : Nat} {c : Cn} (hc : cs[i]? = some c) : c.blocks.Nodup := by
  obtain ⟨l1, l2, rfl, _⟩ := set_split hc
  have := h.nod
  rw [blocks_split, List.nodup_append] at this
  have := this.2.1
  rw [List.nodup_append] at this
  exact this.1
theorem Net.ccon {w : World} {base b : Nat} {row mv : Value} {cs : List Cn} (h : Net w base b row mv cs) {i : Nat} {c : Cn} (hc : cs[i]? = some c) : Con w base c := h.con c (List.mem_of_getElem? hc)
theorem Net.good {w : World} {base b : Nat} {row mv : Value} {cs : List Cn} (h : Net w base b row mv cs) {i : Nat} {c : Cn} (hc : cs[i]? = some c) (hcut : c.ct = false) (s : Bool) (m : Int) (hm : 0 ≤ m) : Good w (some ⟨b, 0, none⟩) i (sI s) m c.k :=
  reach_ok base b row mv cs i c (sI s) m w h hc (by cases s <;> decide) (by cases s <;> decide) hm hcut
theorem Net.cutbad {w : World} {base b : Nat} {row mv : Value} {cs : List Cn} (h : Net w base b row mv cs) {i : Nat} {c : Cn} (hc : cs[i]? = some c) (hcut : c.ct = true) (s : Bool) (m : Int) (hm : 0 ≤ m) : Bad w (some ⟨b, 0, none⟩) i (sI s) m 40 :=
  reach_cut base b row mv cs i c (sI s) m w h hc (by cases s <;> decide) (by cases s <;> decide) hm hcut
theorem Dialed.chg {w w' : World} {base b : Nat} {row mv : Value} {cs : List Cn} {i : Nat} {c c' : Cn} (h : Net w base b row mv cs) (hc : cs[i]? = some c) (g : Chg w w' base c c') : Dialed w w' base b row mv cs row mv (cs.set i c') :=
  let ⟨a, b, d⟩ := h.change hc g
  ⟨a, b, d⟩
theorem m_us (c : Cn) (s : Bool) : (c.m.sd s).us = (c.sd s).us := by cases s <;> rfl
theorem m_cl (c : Cn) (s : Bool) : (c.m.sd s).cl = (c.sd s).cl := by cases s <;> rfl
theorem m_ar (c : Cn) (s : Bool) : (c.m.sd s).ar = (c.sd s).ar := by cases s <;> rfl
theorem m_to (c : Cn) (s : Bool) : (c.m.sd s).to = (c.sd s).to := by cases s <;> rfl
theorem nwrite {w : World} {base b : Nat} {row mv : Value} {cs : List Cn} (h : Net w base b row mv cs) (i : Nat) (c : Cn) (hc : cs[i]? = some c) (s : Bool) (ao : Option Addr) (m cp : Nat) (ps : List Int)
    (hl : ps.length = m) (hb : ao = none → cp = 0) (hp : Has w ao ps) (ho : Octets ps) (hus : (c.sd s).us.length ≤ 1048576) :
    Calls Try.prog 14 #[.pointer (some ⟨b, 0, none⟩), .int .i64 i, .int .i64 (sI s), .slice ao m cp] w fun e w' => e = .returned (.int .i64 (mWrite c.m s ps).1) ∧ ∃ c', c'.m = (mWrite c.m s ps).2 ∧ Dialed w w' base b row mv cs row mv (cs.set i c') := by
  have C := h.ccon hc
  have stay : ∀ E : Int, mWrite c.m s ps = (E, c.m) → ∀ w', w' = w → ∃ c', c'.m = (mWrite c.m s ps).2 ∧ Dialed w w' base b row mv cs row mv (cs.set i c') := fun E hE w' e => by
    subst e
    exact ⟨c, by rw [hE], by rw [set_same hc]; exact Dialed.same h⟩
  cases hct : c.ct with
  | true =>
    have hE : mWrite c.m s ps = (40, c.m) := by unfold mWrite; rw [if_pos (show c.m.ct = true from hct)]
    refine (write_bad (some ⟨b, 0, none⟩) i (sI s) 40 ao m cp w (writer_bad _ _ _ _ _ w (h.cutbad hc hct s m (by omega)) (by decide)) (by decide)).mono ?_
    rintro e w' ⟨rfl, rfl⟩
    exact ⟨by rw [hE], stay 40 hE _ rfl⟩
  | false =>
    have hg := h.good hc hct s m (by omega)
    have hct' : ¬ c.m.ct = true := by rw [show c.m.ct = c.ct from rfl, hct]; decide
    obtain ⟨au, cu, hu, _⟩ := (C.bu s).form
    cases hcl : (c.sd s).cl with
    | true =>
      have hE : mWrite c.m s ps = (42, c.m) := by unfold mWrite; rw [if_neg hct', if_pos (by rw [m_cl]; exact hcl)]
      refine (write_bad (some ⟨b, 0, none⟩) i (sI s) 42 ao m cp w (writer_ended base c _ _ _ s w hg C hcl) (by decide)).mono ?_
      rintro e w' ⟨rfl, rfl⟩
      exact ⟨by rw [hE], stay 42 hE _ rfl⟩
    | false =>
      have hcl' : ¬ (c.m.sd s).cl = true := by rw [m_cl, hcl]; decide
      by_cases hlong : 1048576 < (c.sd s).us.length + ps.length
      · have hE : mWrite c.m s ps = (3, c.m) := by unfold mWrite; rw [if_neg hct', if_neg hcl', if_pos (by rw [m_us]; exact hlong)]
        refine (write_bad (some ⟨b, 0, none⟩) i (sI s) 3 ao m cp w (writer_long base c _ _ _ s w hg C hcl au _ cu hu hus (by omega)) (by decide)).mono ?_
        rintro e w' ⟨rfl, rfl⟩
        exact ⟨by rw [hE], stay 3 hE _ rfl⟩
      · have hE : mWrite c.m s ps = (0, c.m.set s { c.m.sd s with us := (c.m.sd s).us ++ ps }) := by unfold mWrite; rw [if_neg hct', if_neg hcl', if_neg (by rw [m_us]; exact hlong)]
        refine (write_ok base c _ i s ao m cp ps w C (h.cnod hc) (writer_ok base c _ _ _ s w hg C hcl au _ cu hu hus (by omega)) hl hb hp ho (by omega)).mono ?_
        rintro e w' ⟨rfl, v', g⟩
        refine ⟨by rw [hE], _, ?_, Dialed.chg h hc g⟩
        rw [hE, Cn.m_set]
        cases s <;> rfl
theorem nclose {w : World} {base b : Nat} {row mv : Value} {cs : List Cn} (h : Net w base b row mv cs) (i : Nat) (c : Cn) (hc : cs[i]? = some c) (s : Bool) (hus : (c.sd s).us.length ≤ 1048576) :
    Calls Try.prog 17 #[.pointer (some ⟨b, 0, none⟩), .int .i64 i, .int .i64 (sI s)] w fun e w' => e = .returned (.int .i64 (mClose c.m s).1) ∧ ∃ c', c'.m = (mClose c.m s).2 ∧ Dialed w w' base b row mv cs row mv (cs.set i c') := by
  have C := h.ccon hc
  have stay : ∀ E : Int, mClose c.m s = (E, c.m) → ∀ w', w' = w → ∃ c', c'.m = (mClose c.m s).2 ∧ Dialed w w' base b row mv cs row mv (cs.set i c') := fun E hE w' e => by
    subst e
    exact ⟨c, by rw [hE], by rw [set_same hc]; exact Dialed.same h⟩
  cases hct : c.ct with
  | true =>
    have hE : mClose c.m s = (40, c.m) := by unfold mClose; rw [if_pos (show c.m.ct = true from hct)]
    refine (close_bad (some ⟨b, 0, none⟩) i (sI s) 40 w (writer_bad _ _ _ _ _ w (h.cutbad hc hct s 0 (by omega)) (by decide)) (by decide)).mono ?_
    rintro e w' ⟨rfl, rfl⟩
    exact ⟨by rw [hE], stay 40 hE _ rfl⟩
  | false =>
    have hg := h.good hc hct s 0 (by omega)
    have hct' : ¬ c.m.ct = true := by rw [show c.m.ct = c.ct from rfl, hct]; decide
    obtain ⟨au, cu, hu, _⟩ := (C.bu s).form
    cases hcl : (c.sd s).cl with
    | true =>
      have hE : mClose c.m s = (42, c.m) := by unfold mClose; rw [if_neg hct', if_pos (by rw [m_cl]; exact hcl)]
      refine (close_bad (some ⟨b, 0, none⟩) i (sI s) 42 w (writer_ended base c _ _ _ s w hg C hcl) (by decide)).mono ?_
      rintro e w' ⟨rfl, rfl⟩
      exact ⟨by rw [hE], stay 42 hE _ rfl⟩
    | false =>
      have hcl' : ¬ (c.m.sd s).cl = true := by rw [m_cl, hcl]; decide
      have hE : mClose c.m s = (0, c.m.set s { c.m.sd s with cl := true }) := by unfold mClose; rw [if_neg hct', if_neg hcl']
      refine (close_ok base c _ i s w C (writer_ok base c _ _ _ s w hg C hcl au _ cu hu hus (by omega))).mono ?_
      rintro e w' ⟨rfl, rfl⟩
      have g : Chg w (w.setCell ⟨c.k, sO s + 2, none⟩ (.bool true)) base c (c.set s { c.sd s with cl := true }) := by
        cases s
        · exact chg_mark C (h.cnod hc) 5 (.bool true) rfl rfl ⟨rfl, rfl, rfl, rfl⟩ ⟨rfl, rfl, rfl, rfl⟩
        · exact chg_mark C (h.cnod hc) 9 (.bool true) rfl rfl ⟨rfl, rfl, rfl, rfl⟩ ⟨rfl, rfl, rfl, rfl⟩
      refine ⟨by rw [hE], _, ?_, Dialed.chg h hc g⟩
      rw [hE, Cn.m_set]
      cases s <;> rfl
theorem npass {w : World} {base b : Nat} {row mv : Value} {cs : List Cn} (h : Net w base b row mv cs) (i : Nat) (c : Cn) (hc : cs[i]? = some c) (s : Bool) (most : Int) (hsm : (c.sd s).us.length + (c.sd (!s)).ar.length ≤ 140737488355328) :
    Calls Try.prog 15 #[.pointer (some ⟨b, 0, none⟩), .int .i64 i, .int .i64 (sI s), .int .i64 most] w fun e w' => e = .returned (.tuple #[.int .i64 (mPass c.m s most).1, .int .i64 (mPass c.m s most).2.1]) ∧ ∃ c', c'.m = (mPass c.m s most).2.2 ∧ Dialed w w' base b row mv cs row mv (cs.set i c') := by
  have C := h.ccon hc
  have stay : ∀ E : Int, mPass c.m s most = (0, E, c.m) → ∀ w', w' = w → ∃ c', c'.m = (mPass c.m s most).2.2 ∧ Dialed w w' base b row mv cs row mv (cs.set i c') := fun E hE w' e => by
    subst e
    exact ⟨c, by rw [hE], by rw [set_same hc]; exact Dialed.same h⟩
  by_cases hm : most < 0
  · have hE : mPass c.m s most = (0, 2, c.m) := by unfold mPass; rw [if_pos hm]
    refine (pass_bad (some ⟨b, 0, none⟩) i (sI s) most 2 w (reach_arg base b row mv cs i (sI s) most w h (by omega)) (by decide)).mono ?_
    rintro e w' ⟨rfl, rfl⟩
    exact ⟨by rw [hE], stay 2 hE _ rfl⟩
  · cases hct : c.ct with
    | true =>
      have hE : mPass c.m s most = (0, 40, c.m) := by unfold mPass; rw [if_neg hm, if_pos (show c.m.ct = true from hct)]
      refine (pass_bad (some ⟨b, 0, none⟩) i (sI s) most 40 w (h.cutbad hc hct s most (by omega)) (by decide)).mono ?_
      rintro e w' ⟨rfl, rfl⟩
      exact ⟨by rw [hE], stay 40 hE _ rfl⟩
    | false =>
      have hg := h.good hc hct s most (by omega)
      have hct' : ¬ c.m.ct = true := by rw [show c.m.ct = c.ct from rfl, hct]; decide
      obtain ⟨au, cu, hu, _⟩ := (C.bu s).form
      have hE : mPass c.m s most = ((mK c.m s most : Int), 0, (c.m.set (!s) { c.m.sd (!s) with ar := (c.m.sd (!s)).ar ++ (c.m.sd s).us.take (mK c.m s most) }).set s ⟨(c.m.sd s).us.drop (mK c.m s most), (c.m.sd s).ar, (c.m.sd s).cl, if mK c.m s most = (c.m.sd s).us.length then (c.m.sd s).cl else (c.m.sd s).to⟩) := by
        unfold mPass; rw [if_neg hm, if_neg hct']
      have hk : min most ((c.sd s).us.length : Int) = (mK c.m s most : Int) := by
        unfold mK
        rw [m_us]
        omega
      cases s
      · refine (pass_0 base c _ i most _ (mK c.m false most) au cu w hg C (h.cnod hc) hu (by omega) hk hsm).mono ?_
        rintro e w' ⟨rfl, v1, v2, g⟩
        refine ⟨by rw [hE], _, ?_, Dialed.chg h hc g⟩
        rw [hE]
        rfl
      · refine (pass_1 base c _ i most _ (mK c.m true most) au cu w hg C (h.cnod hc) hu (by omega) hk hsm).mono ?_
        rintro e w' ⟨rfl, v1, v2, g⟩
        refine ⟨by rw [hE], _, ?_, Dialed.chg h hc g⟩
        rw [hE]
        rfl
theorem Sd.blocks_sub {c : Cn} {s : Bool} {k : Nat} (h : (c.sd s).a.ownBlock = some k) : k ∈ c.blocks := by
  cases s <;> simp_all [Cn.blocks, Sd.blocks, Cn.sd]
/-- What is read: the bytes, in memory that the net has no more. -/
structure Got (w' : World) (base b : Nat) (row : Value) (cs cs' : List Cn) (v : Value) (zs : List Int) : Prop where
  buf : Buf w' base v zs
  out : ∀ g, v.ownBlock = some g → g ∈ blocks b row cs ∧ g ∉ blocks b row cs'
theorem nread {w : World} {base b : Nat} {row mv : Value} {cs : List Cn} (h : Net w base b row mv cs) (i : Nat) (c : Cn) (hc : cs[i]? = some c) (s : Bool) :
    Calls Try.prog 16 #[.pointer (some ⟨b, 0, none⟩), .int .i64 i, .int .i64 (sI s)] w fun e w' => ∃ v, e = .returned (.tuple #[v, .bool (mRead c.m s).2.1, .int .i64 (mRead c.m s).2.2.1]) ∧ ∃ c', c'.m = (mRead c.m s).2.2.2 ∧ Dialed w w' base b row mv cs row mv (cs.set i c') ∧ Got w' base b row cs (cs.set i c') v (mRead c.m s).1 := by
  have C := h.ccon hc
  cases hct : c.ct with
  | true =>
    have hE : mRead c.m s = ([], false, 40, c.m) := by unfold mRead; rw [if_pos (show c.m.ct = true from hct)]
    refine (read_bad (some ⟨b, 0, none⟩) i (sI s) 40 w (h.cutbad hc hct s 0 (by omega)) (by decide)).mono ?_
    rintro e w' ⟨rfl, rfl⟩
    rw [hE]
    exact ⟨_, rfl, c, rfl, by rw [set_same hc]; exact Dialed.same h, ⟨Buf.nil _ _, fun g hg => by cases hg⟩⟩
  | false =>
    have hg := h.good hc hct s 0 (by omega)
    have hct' : ¬ c.m.ct = true := by rw [show c.m.ct = c.ct from rfl, hct]; decide
    have hE : mRead c.m s = ((c.m.sd s).ar, (c.m.sd (!s)).to, 0, c.m.set s { c.m.sd s with ar := [] }) := by unfold mRead; rw [if_neg hct']
    refine (read_ok base c _ i s w hg C (h.cnod hc)).mono ?_
    rintro e w' ⟨rfl, g, T⟩
    rw [hE]
    refine ⟨_, by rw [m_to], _, ?_, Dialed.chg h hc g, ?_, ?_⟩
    · rw [Cn.m_set]
      cases s <;> rfl
    · have hB := C.ba s
      rw [m_ar]
      exact hB.keep fun k hk => T.block k (hB.low hk).2 (fun hm => hB.ne C.blk (by decide) (by simp at hm; rw [hk, hm]))
    · intro k hk
      obtain ⟨l1, l2, rfl, _, hset⟩ := set_split hc
      have hin := Sd.blocks_sub hk
      have hnod := h.nod
      rw [hset, blocks_split, blocks_split]
      rw [blocks_split, List.nodup_append] at hnod
      obtain ⟨_, q2, q3⟩ := hnod
      rw [List.nodup_append] at q2
      refine ⟨by simp [hin], ?_⟩
      simp only [List.mem_append (a := k) (s := b :: _)]
      rintro (hm | hm)
      · exact q3 k hm k (by simp [hin]) rfl
      · rcases List.mem_append.1 hm with hm | hm
        · obtain ⟨n1, n2, n3, n4, n5, n6⟩ := C.nod.1 (h.cnod hc)
          have hne := (C.ba s).ne C.blk (by decide)
          cases s
          · simp only [Cn.set, Cn.sd, Sd.putA, Cn.blocks, Sd.blocks, List.mem_cons, List.mem_append, Option.mem_toList, Option.mem_def, if_true, if_false, reduceIte, Bool.false_eq_true] at hm hk hne
            rcases hm with rfl | (h' | h') | (h' | h')
            · exact hne hk
            · exact n1 k h' hk
            · cases h'
            · exact n4 k hk h'
            · exact n5 k hk h'
          · simp only [Cn.set, Cn.sd, Sd.putA, Cn.blocks, Sd.blocks, List.mem_cons, List.mem_append, Option.mem_toList, Option.mem_def, if_true, if_false, reduceIte, Bool.false_eq_true] at hm hk hne
            rcases hm with rfl | (h' | h') | (h' | h')
            · exact hne hk
            · exact n3 k h' hk
            · exact n5 k h' hk
            · exact n6 k h' hk
            · cases h'
        · exact q2.2.2 k hin k hm rfl
theorem ncut {w : World} {base b : Nat} {row mv : Value} {cs : List Cn} (h : Net w base b row mv cs) (i : Nat) (c : Cn) (hc : cs[i]? = some c) :
    Calls Try.prog 18 #[.pointer (some ⟨b, 0, none⟩), .int .i64 i] w fun e w' => e = .returned (.int .i64 (mCut c.m).1) ∧ ∃ c', c'.m = (mCut c.m).2 ∧ Dialed w w' base b row mv cs row mv (cs.set i c') := by
  have C := h.ccon hc
  cases hct : c.ct with
  | true =>
    have hE : mCut c.m = (40, c.m) := by unfold mCut; rw [if_pos (show c.m.ct = true from hct)]
    refine (cut_bad (some ⟨b, 0, none⟩) i 40 w (h.cutbad hc hct false 0 (by omega)) (by decide)).mono ?_
    rintro e w' ⟨rfl, rfl⟩
    exact ⟨by rw [hE], c, by rw [hE], by rw [set_same hc]; exact Dialed.same h⟩
  | false =>
    have hct' : ¬ c.m.ct = true := by rw [show c.m.ct = c.ct from rfl, hct]; decide
    refine (cut_ok base c _ i w (h.good hc hct false 0 (by omega)) C (h.cnod hc)).mono ?_
    rintro e w' ⟨rfl, g⟩
    have hE : mCut c.m = (0, ⟨⟨#[]⟩, false, true, ⟨[], [], false, false⟩, ⟨[], [], false, false⟩⟩) := by unfold mCut; rw [if_neg hct']
    exact ⟨by rw [hE], _, by rw [hE]; rfl, Dialed.chg h hc g⟩
theorem nunder {w : World} {base b : Nat} {row mv : Value} {cs : List Cn} (h : Net w base b row mv cs) (i : Nat) (c : Cn) (hc : cs[i]? = some c) (s : Bool) :
    Calls Try.prog 9 #[.pointer (some ⟨b, 0, none⟩), .int .i64 i, .int .i64 (sI s)] w fun e w' => w' = w ∧ e = .returned (.int .i64 (mUnder c.m s)) := by
  have C := h.ccon hc
  unfold mUnder
  cases hct : c.ct with
  | true =>
    rw [if_pos (show c.m.ct = true from hct)]
    exact under_bad (some ⟨b, 0, none⟩) i (sI s) 40 w (h.cutbad hc hct s 0 (by omega)) (by decide)
  | false =>
    have hct' : ¬ c.m.ct = true := by rw [show c.m.ct = c.ct from rfl, hct]; decide
    rw [if_neg hct', m_us]
    obtain ⟨au, cu, hu, _⟩ := (C.bu s).form
    exact under_ok base c _ i s w (h.good hc hct s 0 (by omega)) C au _ cu hu
end Go.Proofs.Ytcbnmoppnoiggaa
