import Derived.Test.YtmljljpldljpjaaFt
import Derived.Test.YtmljljpldljpjaaCq
import Derived.OwnWalk
/-
  named, loose, dangling.
-/
namespace Go.Proofs.Ytmljljpldljpjaa
open Go.RowKit
set_option linter.unusedVariables false
set_option linter.unusedSimpArgs false
set_option maxRecDepth 100000
theorem isEmpty_no {b : ByteArray} (hk : ¬ b = ⟨#[]⟩) : b.toList.isEmpty = false := by
  cases h : b.toList.isEmpty
  · rfl
  · exact absurd (ba_toList_inj (by rw [List.isEmpty_iff.1 h]; simp [ByteArray.toList_eq])) hk
/-- what a target names -/
def namF (t : Tg) : Int × ByteArray := if t.sv = ⟨#[]⟩ then (2, t.sp) else (1, t.sv)
set_option maxHeartbeats 4000000 in
theorem named_any (w : World) (t : Tg) : Calls Try.prog 87 #[.agg #[.string t.sv, .string t.sp, .float .f64 t.wt]] w fun e w' => e = .returned (keyV (namF t)) ∧ Gr w w' := by
  obtain ⟨sv, sp, wt⟩ := t
  unfold keyV namF
  dsimp only
  go_enter Try.func87, Try.ntmps87
  by_cases h : sv = ⟨#[]⟩
  · subst h
    rw [if_pos rfl]
    go_wp2
    exact bodyPost_ret (v := _) (by simp [results, Try.results87, go_sem]) rfl ⟨rfl, (Gr.alloc _ _).trans (Gr.alloc _ _)⟩
  · rw [if_neg h]
    have he := isEmpty_no h
    go_wp2
    exact bodyPost_ret (v := _) (by simp [results, Try.results87, go_sem]) rfl ⟨rfl, (Gr.alloc _ _).trans (Gr.alloc _ _)⟩
/-- the first of a list that fails, from 1 on -/
def first1 {α : Type} (p : α → Bool) (l : List α) : Option Nat := (l.findIdx? p).map (· + 1)
/-- whether a resource names what is not there, and by which of its parts -/
def looF (C : List Rs) (r : Rs) : Option Nat :=
  if r.kd = 2 then first1 (fun t => (firstsF C (namF t)).isNone) r.tgs
  else if r.kd = 3 then first1 (fun u => (firstsF C (2, u.sp)).isNone) r.rus
  else if r.kd = 4 then (if firstsF C (3, r.route) = none then some 0 else none)
  else none
theorem first1_at {α : Type} {p : α → Bool} {l : List α} {i : Nat} {x : α} (h1 : ∀ (j : Nat) (y : α), j < i → l[j]? = some y → p y = false) (h2 : l[i]? = some x) (h3 : p x = true) : first1 p l = some (i + 1) := by
  unfold first1
  have hi := (List.getElem?_eq_some_iff.1 h2)
  rw [List.findIdx?_eq_some_iff_getElem.2 ⟨hi.1, by rw [hi.2]; exact h3, fun j hj => by have := h1 j (l[j]'(by have := hi.1; omega)) hj (List.getElem?_eq_getElem _); simp [this]⟩]
  rfl
theorem first1_no {α : Type} {p : α → Bool} {l : List α} (h1 : ∀ (j : Nat) (y : α), l[j]? = some y → p y = false) : first1 p l = none := by
  unfold first1
  rw [List.findIdx?_eq_none_iff.2 (fun x hx => by obtain ⟨j, hj⟩ := List.getElem?_of_mem hx; exact h1 j x hj)]
  rfl
def loA (o : Option Nat) : Int := match o with | some i => (i : Int) | none => 0
theorem key_ok {k : Int} {s : ByteArray} (h1 : 0 ≤ k) (h2 : k ≤ 4) (h : okS s) : okK (k, s) := ⟨⟨by omega, by omega⟩, h⟩
theorem namF_ok {t : Tg} (h1 : okS t.sv) (h2 : okS t.sp) : okK (namF t) := by
  unfold namF
  split
  · exact key_ok (by decide) (by decide) h2
  · exact key_ok (by decide) (by decide) h1
theorem Mp.is {W : World} {m N : Nat} {C : List Rs} (h : Mp W m N (firstsF C)) {k : Int × ByteArray} (hk : okK k) : ∃ (v : Int), (Instr.lookup 61 (.map (some m)) (keyV k) true).run Try.prog W = .ok (.tuple #[.int .i64 v, .bool (!(firstsF C k).isNone)]) W := by
  rcases lookC h hk with ⟨i, hi⟩ | hn
  · exact ⟨i, by rw [(h.look hk true).1 i hi, hi]; rfl⟩
  · exact ⟨0, by rw [(h.look hk true).2 hn, hn]; rfl⟩
theorem Cel.tcells {w : World} {a : Option Addr} {os : List Tg} (h : Cel w a 3 (os.map Tg.row)) {i : Nat} {t : Tg} (hi : os[i]? = some t) : ∃ g off, a = some ⟨g, off, none⟩ ∧
    w.cell? ⟨g, off + i * 3, none⟩ = some (.string t.sv) ∧ w.cell? ⟨g, off + i * 3 + 1, none⟩ = some (.string t.sp) ∧ w.cell? ⟨g, off + i * 3 + 2, none⟩ = some (.float .f64 t.wt) := by
  obtain ⟨g, off, e, hc⟩ := h.at_ hi
  exact ⟨g, off, e, by have := hc 0 _ rfl; rwa [Nat.add_zero] at this, hc 1 _ rfl, hc 2 _ rfl⟩
theorem Cel.rcells {w : World} {a : Option Addr} {os : List Ru} (h : Cel w a 4 (os.map Ru.row)) {i : Nat} {t : Ru} (hi : os[i]? = some t) : ∃ g off, a = some ⟨g, off, none⟩ ∧
    w.cell? ⟨g, off + i * 4, none⟩ = some (.string t.pa) ∧ w.cell? ⟨g, off + i * 4 + 1, none⟩ = some (.string t.me) ∧ w.cell? ⟨g, off + i * 4 + 2, none⟩ = some (.string t.sp) ∧ w.cell? ⟨g, off + i * 4 + 3, none⟩ = some (.bool t.al) := by
  obtain ⟨g, off, e, hc⟩ := h.at_ hi
  exact ⟨g, off, e, by have := hc 0 _ rfl; rwa [Nat.add_zero] at this, hc 1 _ rfl, hc 2 _ rfl, hc 3 _ rfl⟩
/-- what loose tells -/
def LoE (w : World) (o : Option Nat) (e : Ending) (w' : World) : Prop := e = .returned (.tuple #[.int .i64 (loA o), .bool o.isSome]) ∧ Gr w w'
set_option maxHeartbeats 16000000 in
theorem loose_any (w : World) (o : Rx) (C : List Rs) (M N : Nat) (ho : Rin w o) (hM : Mp w M N (firstsF C)) :
    Calls Try.prog 68 #[.agg #[.int .i64 o.kd, .string o.nm, .slice o.ea o.eps.length o.ec, .slice o.ta o.tgs.length o.tc, .string o.host, .slice o.ra o.rus.length o.rc, .string o.route, .bool o.del], .map (some M)] w fun e w' => LoE w (looF C o.toRs) e w' := by
  have HO := hideL ho
  have HM := hideL hM
  have HLT := hideL ho.lt
  have HLR := hideL ho.lr
  clear ho hM
  obtain ⟨w1, hw1⟩ : ∃ X, w.alloc (boxO o) = X := ⟨_, rfl⟩
  have HG1 : Hid (Gr w w1) := by rw [← hw1]; exact Gr.alloc _ _
  have HX1 : Hid (w1.heap[w.heap.size]? = some (boxO o)) := by rw [← hw1]; exact heap_alloc_new w _
  unfold boxO at hw1
  obtain ⟨e0, e1, e2, e3, e4, e5, e6, e7⟩ := box8 HX1.out
  obtain ⟨A, hA⟩ : ∃ A, looF C o.toRs = A := ⟨_, rfl⟩
  have HA := hideL hA
  rw [hA]
  clear hA
  unfold looF at HA
  go_enter Try.func68, Try.ntmps68
  by_cases h2 : o.kd = 2
  · rw [if_pos h2] at HA
    rw [h2] at e0 hw1 ⊢
    have hn0 : o.tgs.length ≤ 1048576 := HLT.out
    obtain ⟨n, hn⟩ : ∃ n, o.tgs.length = n := ⟨_, rfl⟩
    rw [hn] at e3 hw1 hn0 ⊢
    have HN := hideL hn
    clear hn h2
    go_wp2_with fail
    go_loopw [23] (fun t wr => ∃ (i : Nat), t = .int .i64 i ∧ i ≤ n ∧ Gr w1 wr ∧ Hid (∀ (j : Nat) (y : Tg), j < i → o.tgs[j]? = some y → (firstsF C (namF y)).isNone = false)) (fun t _ => n - (intOf t).toNat)
    case atStart => exact ⟨0, rfl, by omega, Gr.refl _, fun j y hj => by omega⟩
    case round =>
      obtain ⟨i, rfl, hi, hgr, HF⟩ := hrel
      have HG := hideL hgr
      clear hgr
      have i0 : (0 : Int) ≤ i := by omega
      by_cases h3 : i < n
      · have h3' : (i : Int) < n := by omega
        rcases hki : o.tgs[i]? with _ | t
        · have := List.getElem?_eq_none_iff.1 hki; have := HN.out; omega
        have HT := hideL (HO.out.st t (List.mem_of_getElem? hki))
        obtain ⟨g, off, hta, c0, c1, c2⟩ := (HO.out.ts.below (HG1.out.trans HG.out).below).tcells hki
        have HKI := hideL hki
        rw [hta]
        clear hki hta
        have st := st_float
        go_wp2_with fail
        refine (named_any _ t).mono ?_
        rintro e w3 ⟨rfl, hg3⟩
        have HG3 := hideL ((Gr.alloc wr _).trans hg3)
        obtain ⟨v, hlk⟩ := (HM.out.below ((HG1.out.trans HG.out).trans HG3.out).below).is (namF_ok HT.out.1 HT.out.2.1)
        obtain ⟨b, hb⟩ : ∃ b, (firstsF C (namF t)).isNone = b := ⟨_, rfl⟩
        have HBB := hideL hb
        rw [hb] at hlk
        clear hb hg3
        unfold keyV at hlk ⊢
        cases b
        · go_wp2_with fail
          go_roundw
          case rel => exact ⟨i + 1, by go_num, by omega, HG.out.trans HG3.out, fun j y hj hy => by
            by_cases hji : j < i
            · exact HF.out j y hji hy
            · obtain rfl : j = i := by omega
              rw [HKI.out] at hy; cases hy; exact HBB.out⟩
          case measure => simp [intOf]; omega
        · have HR : Hid (A = some (i + 1)) := by
            unfold Hid; rw [← HA.out]; exact first1_at HF.out HKI.out HBB.out
          go_wp2
          go_ret2
          exact ⟨by rw [HR.out]; simp [loA], (HG1.out.trans HG.out).trans HG3.out⟩
      · have h3' : ¬ (i : Int) < n := by omega
        have HR : Hid (A = none) := by
          unfold Hid; rw [← HA.out]
          exact first1_no (fun j y hy => HF.out j y (by have := (List.getElem?_eq_some_iff.1 hy).1; have := HN.out; omega) hy)
        go_wp2
        go_ret2
        exact ⟨by rw [HR.out]; rfl, HG1.out.trans HG.out⟩
  · rw [if_neg h2] at HA
    have h2' : (o.kd == 2) = false := by simpa using h2
    by_cases h3 : o.kd = 3
    · rw [if_pos h3] at HA
      rw [h3] at e0 hw1 ⊢
      have hn0 : o.rus.length ≤ 1048576 := HLR.out
      obtain ⟨n, hn⟩ : ∃ n, o.rus.length = n := ⟨_, rfl⟩
      rw [hn] at e5 hw1 hn0 ⊢
      have HN := hideL hn
      clear hn h2 h3 h2'
      go_wp2_with fail
      go_loopw [45] (fun t wr => ∃ (i : Nat), t = .int .i64 i ∧ i ≤ n ∧ Gr w1 wr ∧ Hid (∀ (j : Nat) (y : Ru), j < i → o.rus[j]? = some y → (firstsF C (2, y.sp)).isNone = false)) (fun t _ => n - (intOf t).toNat)
      case atStart => exact ⟨0, rfl, by omega, Gr.refl _, fun j y hj => by omega⟩
      case round =>
        obtain ⟨i, rfl, hi, hgr, HF⟩ := hrel
        have HG := hideL hgr
        clear hgr
        have i0 : (0 : Int) ≤ i := by omega
        by_cases h3 : i < n
        · have h3' : (i : Int) < n := by omega
          rcases hki : o.rus[i]? with _ | t
          · have := List.getElem?_eq_none_iff.1 hki; have := HN.out; omega
          have HT := hideL (HO.out.sr t (List.mem_of_getElem? hki))
          obtain ⟨g, off, hta, c0, c1, c2, c3⟩ := (HO.out.rs.below (HG1.out.trans HG.out).below).rcells hki
          have HKI := hideL hki
          rw [hta]
          clear hki hta
          obtain ⟨w3, hw3⟩ : ∃ X, wr.alloc (.cells #[.string t.pa, .string t.me, .string t.sp, .bool t.al] 71 (0, 0)) = X := ⟨_, rfl⟩
          have HG3 : Hid (Gr wr w3) := by rw [← hw3]; exact Gr.alloc _ _
          have q2 : w3.cell? ⟨wr.heap.size, 2, none⟩ = some (.string t.sp) := by rw [← hw3, cell_block (heap_alloc_new wr _)]; rfl
          obtain ⟨v, hlk⟩ := (HM.out.below ((HG1.out.trans HG.out).trans HG3.out).below).is (key_ok (k := 2) (by decide) (by decide) HT.out.2.2)
          obtain ⟨b, hb⟩ : ∃ b, (firstsF C (2, t.sp)).isNone = b := ⟨_, rfl⟩
          have HBB := hideL hb
          rw [hb] at hlk
          clear hb
          unfold keyV at hlk
          cases b
          · go_wp2_with fail
            go_roundw
            case rel => exact ⟨i + 1, by go_num, by omega, HG.out.trans HG3.out, fun j y hj hy => by
              by_cases hji : j < i
              · exact HF.out j y hji hy
              · obtain rfl : j = i := by omega
                rw [HKI.out] at hy; cases hy; exact HBB.out⟩
            case measure => simp [intOf]; omega
          · have HR : Hid (A = some (i + 1)) := by
              unfold Hid; rw [← HA.out]; exact first1_at HF.out HKI.out HBB.out
            go_wp2
            go_ret2
            exact ⟨by rw [HR.out]; simp [loA], (HG1.out.trans HG.out).trans HG3.out⟩
        · have h3' : ¬ (i : Int) < n := by omega
          have HR : Hid (A = none) := by
            unfold Hid; rw [← HA.out]
            exact first1_no (fun j y hy => HF.out j y (by have := (List.getElem?_eq_some_iff.1 hy).1; have := HN.out; omega) hy)
          go_wp2
          go_ret2
          exact ⟨by rw [HR.out]; rfl, HG1.out.trans HG.out⟩
    · rw [if_neg h3] at HA
      have h3' : (o.kd == 3) = false := by simpa using h3
      by_cases h4 : o.kd = 4
      · rw [if_pos h4] at HA
        rw [h4] at e0 hw1 ⊢
        clear h2 h3 h4 h2' h3'
        obtain ⟨v, hlk⟩ := (HM.out.below HG1.out.below).is (key_ok (k := 3) (by decide) (by decide) HO.out.n3)
        obtain ⟨b, hb⟩ : ∃ b, (firstsF C (3, o.route)).isNone = b := ⟨_, rfl⟩
        rw [hb] at hlk
        unfold keyV at hlk
        cases b
        · have HR : Hid (A = none) := by
            unfold Hid; rw [← HA.out, if_neg]
            intro h; rw [h] at hb; cases hb
          clear hb
          go_wp2
          go_ret2
          exact ⟨by rw [HR.out]; rfl, HG1.out⟩
        · have HR : Hid (A = some 0) := by
            unfold Hid; rw [← HA.out, if_pos]
            exact Option.isNone_iff_eq_none.1 hb
          clear hb
          go_wp2
          go_ret2
          exact ⟨by rw [HR.out]; rfl, HG1.out⟩
      · rw [if_neg h4] at HA
        have h4' : (o.kd == 4) = false := by simpa using h4
        have HR := hideL HA.out.symm
        go_wp2
        go_ret2
        exact ⟨by rw [HR.out]; rfl, HG1.out⟩
end Go.Proofs.Ytmljljpldljpjaa

/-
  dangling.
-/
namespace Go.Proofs.Ytmljljpldljpjaa
open Go.RowKit
set_option linter.unusedVariables false
set_option linter.unusedSimpArgs false
set_option maxRecDepth 100000
/-- the first of a list that is told, and what of it -/
def lookF (p : Nat → Rs → Option Nat) (C : List Rs) : Option (Nat × Nat) := (List.range C.length).findSome? (fun i => (C[i]?).bind fun r => (p i r).map fun k => (i, k))
theorem findSome_range {α : Type} {f : Nat → Option α} {n i : Nat} {x : α} (h1 : ∀ j, j < i → f j = none) (h2 : f i = some x) (hi : i < n) : (List.range n).findSome? f = some x := by
  rw [List.findSome?_eq_some_iff]
  refine ⟨List.range i, i, (List.range n).drop (i + 1), ?_, h2, fun j hj => h1 j (by simpa using hj)⟩
  apply List.ext_getElem?
  intro j
  by_cases hj : j < i
  · rw [List.getElem?_append_left (by simpa using hj)]
    simp [List.getElem?_range, hj, Nat.lt_trans hj hi]
  · rw [List.getElem?_append_right (by simp; omega)]
    simp only [List.length_range]
    rcases hji : j - i with _ | k
    · have : j = i := by omega
      subst this; simp [hi]
    · have : j = i + 1 + k := by omega
      subst this
      simp [List.getElem?_drop]
theorem lookF_stop {p : Nat → Rs → Option Nat} {C : List Rs} {i k : Nat} {r : Rs} (h1 : ∀ (j : Nat) (x : Rs), j < i → C[j]? = some x → p j x = none) (h2 : C[i]? = some r) (h3 : p i r = some k) : lookF p C = some (i, k) := by
  have hi := (List.getElem?_eq_some_iff.1 h2).1
  unfold lookF
  refine findSome_range (fun j hj => ?_) ?_ hi
  · have : j < C.length := by omega
    rw [List.getElem?_eq_getElem this]
    simp [h1 j _ hj (List.getElem?_eq_getElem this)]
  · rw [h2]; simp [h3]
theorem lookF_none {p : Nat → Rs → Option Nat} {C : List Rs} (h1 : ∀ (j : Nat) (x : Rs), C[j]? = some x → p j x = none) : lookF p C = none := by
  unfold lookF
  rw [List.findSome?_eq_none_iff]
  intro j hj
  have : j < C.length := by simpa using hj
  rw [List.getElem?_eq_getElem this]
  simp [h1 j _ (List.getElem?_eq_getElem this)]
/-- a fault's value -/
def faV (o : Option (Nat × Nat)) (x : Int) : Value := match o with | some (i, k) => .agg #[.int .i64 i, .int .i64 k, .int .i64 x] | none => .agg #[.int .i64 0, .int .i64 0, .int .i64 0]
/-- what a look leaves -/
def FaE (w : World) (v : Value) (e : Ending) (w' : World) : Prop := e = .returned v ∧ Below w.heap.size w w'
def f0 : Obj := .cells #[.int .i64 0, .int .i64 0, .int .i64 0] 33 (0, 0)
set_option maxHeartbeats 16000000 in
theorem dangling_any (w : World) (a : Option Addr) (n c : Nat) (os : List Rx) (hL : Lr w a os) (hn : os.length = n) (hs : n ≤ 4194304) :
    Calls Try.prog 48 #[.slice a n c] w fun e w' => FaE w (faV (lookF (fun _ r => looF (os.map Rx.toRs) r) (os.map Rx.toRs)) 140) e w' := by
  have HL := hideL hL
  have HN := hideL hn
  clear hL hn
  obtain ⟨A, hA⟩ : ∃ A, lookF (fun _ r => looF (os.map Rx.toRs) r) (os.map Rx.toRs) = A := ⟨_, rfl⟩
  have HST : Hid (∀ (i k : Nat) (r : Rs), (∀ (j : Nat) (x : Rs), j < i → (os.map Rx.toRs)[j]? = some x → looF (os.map Rx.toRs) x = none) → (os.map Rx.toRs)[i]? = some r → looF (os.map Rx.toRs) r = some k → A = some (i, k)) := fun i k r h1 h2 h3 => by rw [← hA]; exact lookF_stop h1 h2 h3
  have HAL : Hid ((∀ (j : Nat) (x : Rs), (os.map Rx.toRs)[j]? = some x → looF (os.map Rx.toRs) x = none) → A = none) := fun h => by rw [← hA]; exact lookF_none h
  rw [hA]
  clear hA
  obtain ⟨w1, hw1⟩ : ∃ X, w.alloc f0 = X := ⟨_, rfl⟩
  have HB1 : Hid (Below w.heap.size w w1) := by rw [← hw1]; exact (Gr.alloc _ _).below
  have HX1 : Hid (w1.heap[w.heap.size]? = some f0) := by rw [← hw1]; exact heap_alloc_new w _
  unfold f0 at hw1
  obtain ⟨B, hB⟩ : ∃ B, w.heap.size = B := ⟨_, rfl⟩
  rw [hB] at HX1
  go_enter Try.func48, Try.ntmps48
  go_wp2_with fail
  refine (firsts_any w1 a n c os (HL.out.below HB1.out) HN.out hs).mono ?_
  rintro e w2 ⟨rfl, hm2, hb2⟩
  have HM2 := hideL hm2
  have HX2 := hideL (hb2.cells HX1.out)
  have HB2 := hideL (HB1.out.trans (hb2.mono HB1.out.size))
  obtain ⟨M, hM⟩ : ∃ M, w1.heap.size = M := ⟨_, rfl⟩
  rw [hM] at HM2 ⊢
  clear hm2 hb2 hM hw1 HX1
  go_wp2_with fail
  go_loopw [12] (fun t wr => ∃ (i : Nat), t = .int .i64 i ∧ i ≤ n ∧ Gr w2 wr ∧ Hid (∀ (j : Nat) (x : Rs), j < i → (os.map Rx.toRs)[j]? = some x → looF (os.map Rx.toRs) x = none)) (fun t _ => n - (intOf t).toNat)
  case atStart => exact ⟨0, rfl, by omega, Gr.refl _, fun j y hj => by omega⟩
  case round =>
    obtain ⟨i, rfl, hi, hgr, HF⟩ := hrel
    have HG := hideL hgr
    clear hgr
    have HB := hideL (HB2.out.trans (HG.out.below.mono HB2.out.size))
    have i0 : (0 : Int) ≤ i := by omega
    by_cases h3 : i < n
    · have h3' : (i : Int) < n := by omega
      rcases hki : os[i]? with _ | o
      · have := List.getElem?_eq_none_iff.1 hki; have := HN.out; omega
      have HKI : Hid ((os.map Rx.toRs)[i]? = some o.toRs) := by unfold Hid; simp [hki]
      have HRO := hideL (HL.out.each o (List.mem_of_getElem? hki))
      obtain ⟨g, off, rfl, d0, d1, d2, d3, d4, d5, d6, d7⟩ := (HL.out.row.below HB.out).cells hki
      clear hki
      obtain ⟨w3, hw3⟩ : ∃ X, wr.alloc (boxO o) = X := ⟨_, rfl⟩
      have HG3 : Hid (Gr wr w3) := by rw [← hw3]; exact Gr.alloc _ _
      have HX3 : Hid (w3.heap[wr.heap.size]? = some (boxO o)) := by rw [← hw3]; exact heap_alloc_new wr _
      have HB3 := hideL (HB.out.trans (HG3.out.below.mono HB.out.size))
      unfold boxO at hw3
      obtain ⟨e0, e1, e2, e3, e4, e5, e6, e7⟩ := box8 HX3.out
      have HLO := hideL (loose_any w3 o (os.map Rx.toRs) M n (HRO.out.below HB3.out) (HM2.out.below (HG.out.trans HG3.out).below))
      unfold LoE at HLO
      rcases hl : looF (os.map Rx.toRs) o.toRs with _ | k
      · rw [hl] at HLO
        have HLN := hideL hl
        clear hl
        unfold loA at HLO
        dsimp only [Option.isSome] at HLO
        go_wp2_with fail
        refine HLO.out.mono ?_
        rintro e w4 ⟨rfl, hg4⟩
        have HG4 := hideL hg4
        clear hg4
        go_wp2_with fail
        go_roundw
        case rel => exact ⟨i + 1, by go_num, by omega, (HG.out.trans HG3.out).trans HG4.out, fun j y hj hy => by
          by_cases hji : j < i
          · exact HF.out j y hji hy
          · obtain rfl : j = i := by omega
            rw [HKI.out] at hy; cases hy; exact HLN.out⟩
        case measure => simp [intOf]; omega
      · rw [hl] at HLO
        have HR : Hid (A = some (i, k)) := HST.out i k o.toRs HF.out HKI.out hl
        clear hl
        unfold loA at HLO
        dsimp only [Option.isSome] at HLO
        go_wp2_with fail
        refine HLO.out.mono ?_
        rintro e w4 ⟨rfl, hg4⟩
        have HB4 := hideL (HB3.out.trans (hg4.below.mono HB3.out.size))
        have HX4 := hideL (((HG.out.trans HG3.out).trans hg4).below.cells HX2.out)
        obtain ⟨⟨f0, f1, f2⟩, ⟨g0, g1, g2⟩, ⟨k0, k1, k2⟩, hbut, -⟩ := set3 HX4.out (.int .i64 i) (.int .i64 k) (.int .i64 140)
        have HBT := hideL hbut
        clear hg4 hbut e0 e1 e2 e3 e4 e5 e6 e7 d0 d1 d2 d3 d4 d5 d6 d7 HLO
        go_wp2
        refine bodyPost_ret (v := .agg #[.int .i64 i, .int .i64 k, .int .i64 140]) (by simp [results, Try.results48, go_sem, k0, k1, k2]) rfl ⟨by rw [HR.out]; rfl, ?_⟩
        exact HB4.out.trans (HBT.out.below HB4.out.size (by omega))
    · have h3' : ¬ (i : Int) < n := by omega
      have HR : Hid (A = none) := HAL.out (fun j y hy => HF.out j y (by have := (List.getElem?_eq_some_iff.1 hy).1; have := HN.out; simp only [List.length_map] at *; omega) hy)
      have HX4 := hideL (HG.out.below.cells HX2.out)
      obtain ⟨⟨f0, f1, f2⟩, ⟨g0, g1, g2⟩, ⟨k0, k1, k2⟩, hbut, -⟩ := set3 HX4.out (.int .i64 0) (.int .i64 0) (.int .i64 0)
      have HBT := hideL hbut
      clear hbut
      go_wp2
      refine bodyPost_ret (v := .agg #[.int .i64 0, .int .i64 0, .int .i64 0]) (by simp [results, Try.results48, go_sem, k0, k1, k2]) rfl ⟨by rw [HR.out]; rfl, ?_⟩
      exact HB.out.trans (HBT.out.below HB.out.size (by omega))
end Go.Proofs.Ytmljljpldljpjaa
