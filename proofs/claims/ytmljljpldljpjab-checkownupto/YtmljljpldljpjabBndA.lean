import Derived.Test.YtmljljpldljpjabFt
import Derived.Test.YtmljljpldljpjabCq
import Derived.OwnWalk
import Derived.Test.YtmljljpldljpjabAs
import Derived.Test.YtmljljpldljpjabCm
/-
  named, loose, dangling.
-/
namespace Go.Proofs.Ytmljljpldljpjab
open Go.RowKit
set_option linter.unusedVariables false
set_option linter.unusedSimpArgs false
set_option maxRecDepth 100000
theorem isEmpty_no {b : ByteArray} (hk : ¬ b = ⟨#[]⟩) : b.toList.isEmpty = false := by
  cases h : b.toList.isEmpty
  · rfl
  · exact absurd (ba_toList_inj (by rw [List.isEmpty_iff.1 h]; simp [ByteArray.toList_eq])) hk
/-- what a target names -/
def namF (t : Tg) : Int × ByteArray := if t.sv = ⟨#[]⟩ then (2, t.sp) else (1, t.sv)
set_option maxHeartbeats 4000000 in
theorem named_any (w : World) (t : Tg) : Calls Try.prog 74 #[.agg #[.string t.sv, .string t.sp, .float .f64 t.wt]] w fun e w' => e = .returned (keyV (namF t)) ∧ Gr w w' := by
  obtain ⟨sv, sp, wt⟩ := t
  unfold keyV namF
  dsimp only
  go_enter Try.func74, Try.ntmps74
  by_cases h : sv = ⟨#[]⟩
  · subst h
    rw [if_pos rfl]
    go_wp2
    exact bodyPost_ret (v := _) (by simp [results, Try.results74, go_sem]) rfl ⟨rfl, (Gr.alloc _ _).trans (Gr.alloc _ _)⟩
  · rw [if_neg h]
    have he := isEmpty_no h
    go_wp2
    exact bodyPost_ret (v := _) (by simp [results, Try.results74, go_sem]) rfl ⟨rfl, (Gr.alloc _ _).trans (Gr.alloc _ _)⟩
/-- the first of a list that fails, from 1 on -/
def first1 {α : Type} (p : α → Bool) (l : List α) : Option Nat := (l.findIdx? p).map (· + 1)
/-- whether a resource names what is not there, and by which of its parts -/
def looF (C : List Rs) (r : Rs) : Option Nat :=
  if r.kd = 2 then first1 (fun t => (firstsF C (namF t)).isNone) r.tgs
  else if r.kd = 3 then first1 (fun u => (firstsF C (2, u.sp)).isNone) r.rus
  else if r.kd = 4 then (if firstsF C (3, r.route) = none then some 0 else none)
  else none
theorem first1_at {α : Type} {p : α → Bool} {l : List α} {i : Nat} {x : α} (h1 : ∀ (j : Nat) (y : α), j < i → l[j]? = some y → p y = false) (h2 : l[i]? = some x) (h3 : p x = true) : first1 p l = some (i + 1) := by
  unfold first1
  have hi := (List.getElem?_eq_some_iff.1 h2)
  rw [List.findIdx?_eq_some_iff_getElem.2 ⟨hi.1, by rw [hi.2]; exact h3, fun j hj => by have := h1 j (l[j]'(by have := hi.1; omega)) hj (List.getElem?_eq_getElem _); simp [this]⟩]
  rfl
theorem first1_no {α : Type} {p : α → Bool} {l : List α} (h1 : ∀ (j : Nat) (y : α), l[j]? = some y → p y = false) : first1 p l = none := by
  unfold first1
  rw [List.findIdx?_eq_none_iff.2 (fun x hx => by obtain ⟨j, hj⟩ := List.getElem?_of_mem hx; exact h1 j x hj)]
  rfl
def loA (o : Option Nat) : Int := match o with | some i => (i : Int) | none => 0
theorem key_ok {k : Int} {s : ByteArray} (h1 : 0 ≤ k) (h2 : k ≤ 4) (h : okS s) : okK (k, s) := ⟨⟨by omega, by omega⟩, h⟩
theorem namF_ok {t : Tg} (h1 : okS t.sv) (h2 : okS t.sp) : okK (namF t) := by
  unfold namF
  split
  · exact key_ok (by decide) (by decide) h2
  · exact key_ok (by decide) (by decide) h1
theorem Mp.is {W : World} {m N : Nat} {C : List Rs} (h : Mp W m N (firstsF C)) {k : Int × ByteArray} (hk : okK k) : ∃ (v : Int), (Instr.lookup 50 (.map (some m)) (keyV k) true).run Try.prog W = .ok (.tuple #[.int .i64 v, .bool (!(firstsF C k).isNone)]) W := by
  rcases lookC h hk with ⟨i, hi⟩ | hn
  · exact ⟨i, by rw [(h.look hk true).1 i hi, hi]; rfl⟩
  · exact ⟨0, by rw [(h.look hk true).2 hn, hn]; rfl⟩
theorem Cel.tcells {w : World} {a : Option Addr} {os : List Tg} (h : Cel w a 3 (os.map Tg.row)) {i : Nat} {t : Tg} (hi : os[i]? = some t) : ∃ g off, a = some ⟨g, off, none⟩ ∧
    w.cell? ⟨g, off + i * 3, none⟩ = some (.string t.sv) ∧ w.cell? ⟨g, off + i * 3 + 1, none⟩ = some (.string t.sp) ∧ w.cell? ⟨g, off + i * 3 + 2, none⟩ = some (.float .f64 t.wt) := by
  obtain ⟨g, off, e, hc⟩ := h.at_ hi
  exact ⟨g, off, e, by have := hc 0 _ rfl; rwa [Nat.add_zero] at this, hc 1 _ rfl, hc 2 _ rfl⟩
theorem Cel.rcells {w : World} {a : Option Addr} {os : List Ru} (h : Cel w a 4 (os.map Ru.row)) {i : Nat} {t : Ru} (hi : os[i]? = some t) : ∃ g off, a = some ⟨g, off, none⟩ ∧
    w.cell? ⟨g, off + i * 4, none⟩ = some (.string t.pa) ∧ w.cell? ⟨g, off + i * 4 + 1, none⟩ = some (.string t.me) ∧ w.cell? ⟨g, off + i * 4 + 2, none⟩ = some (.string t.sp) ∧ w.cell? ⟨g, off + i * 4 + 3, none⟩ = some (.bool t.al) := by
  obtain ⟨g, off, e, hc⟩ := h.at_ hi
  exact ⟨g, off, e, by have := hc 0 _ rfl; rwa [Nat.add_zero] at this, hc 1 _ rfl, hc 2 _ rfl, hc 3 _ rfl⟩
/-- what loose tells -/
def LoE (w : World) (o : Option Nat) (e : Ending) (w' : World) : Prop := e = .returned (.tuple #[.int .i64 (loA o), .bool o.isSome]) ∧ Gr w w'
set_option maxHeartbeats 16000000 in
theorem loose_any (w : World) (o : Rx) (C : List Rs) (M N : Nat) (ho : Rin w o) (hM : Mp w M N (firstsF C)) :
    Calls Try.prog 57 #[.agg #[.int .i64 o.kd, .string o.nm, .slice o.ea o.eps.length o.ec, .slice o.ta o.tgs.length o.tc, .string o.host, .slice o.ra o.rus.length o.rc, .string o.route, .bool o.del], .map (some M)] w fun e w' => LoE w (looF C o.toRs) e w' := by
  have HO := hideL ho
  have HM := hideL hM
  have HLT := hideL ho.lt
  have HLR := hideL ho.lr
  clear ho hM
  obtain ⟨w1, hw1⟩ : ∃ X, w.alloc (boxO o) = X := ⟨_, rfl⟩
  have HG1 : Hid (Gr w w1) := by rw [← hw1]; exact Gr.alloc _ _
  have HX1 : Hid (w1.heap[w.heap.size]? = some (boxO o)) := by rw [← hw1]; exact heap_alloc_new w _
  unfold boxO at hw1
  obtain ⟨e0, e1, e2, e3, e4, e5, e6, e7⟩ := box8 HX1.out
  obtain ⟨A, hA⟩ : ∃ A, looF C o.toRs = A := ⟨_, rfl⟩
  have HA := hideL hA
  rw [hA]
  clear hA
  unfold looF at HA
  go_enter Try.func57, Try.ntmps57
  by_cases h2 : o.kd = 2
  · rw [if_pos h2] at HA
    rw [h2] at e0 hw1 ⊢
    have hn0 : o.tgs.length ≤ 1048576 := HLT.out
    obtain ⟨n, hn⟩ : ∃ n, o.tgs.length = n := ⟨_, rfl⟩
    rw [hn] at e3 hw1 hn0 ⊢
    have HN := hideL hn
    clear hn h2
    go_wp2_with fail
    go_loopw [23] (fun t wr => ∃ (i : Nat), t = .int .i64 i ∧ i ≤ n ∧ Gr w1 wr ∧ Hid (∀ (j : Nat) (y : Tg), j < i → o.tgs[j]? = some y → (firstsF C (namF y)).isNone = false)) (fun t _ => n - (intOf t).toNat)
    case atStart => exact ⟨0, rfl, by omega, Gr.refl _, fun j y hj => by omega⟩
    case round =>
      obtain ⟨i, rfl, hi, hgr, HF⟩ := hrel
      have HG := hideL hgr
      clear hgr
      have i0 : (0 : Int) ≤ i := by omega
      by_cases h3 : i < n
      · have h3' : (i : Int) < n := by omega
        rcases hki : o.tgs[i]? with _ | t
        · have := List.getElem?_eq_none_iff.1 hki; have := HN.out; omega
        have HT := hideL (HO.out.st t (List.mem_of_getElem? hki))
        obtain ⟨g, off, hta, c0, c1, c2⟩ := (HO.out.ts.below (HG1.out.trans HG.out).below).tcells hki
        have HKI := hideL hki
        rw [hta]
        clear hki hta
        have st := st_float
        go_wp2_with fail
        refine (named_any _ t).mono ?_
        rintro e w3 ⟨rfl, hg3⟩
        have HG3 := hideL ((Gr.alloc wr _).trans hg3)
        obtain ⟨v, hlk⟩ := (HM.out.below ((HG1.out.trans HG.out).trans HG3.out).below).is (namF_ok HT.out.1 HT.out.2.1)
        obtain ⟨b, hb⟩ : ∃ b, (firstsF C (namF t)).isNone = b := ⟨_, rfl⟩
        have HBB := hideL hb
        rw [hb] at hlk
        clear hb hg3
        unfold keyV at hlk ⊢
        cases b
        · go_wp2_with fail
          go_roundw
          case rel => exact ⟨i + 1, by go_num, by omega, HG.out.trans HG3.out, fun j y hj hy => by
            by_cases hji : j < i
            · exact HF.out j y hji hy
            · obtain rfl : j = i := by omega
              rw [HKI.out] at hy; cases hy; exact HBB.out⟩
          case measure => simp [intOf]; omega
        · have HR : Hid (A = some (i + 1)) := by
            unfold Hid; rw [← HA.out]; exact first1_at HF.out HKI.out HBB.out
          go_wp2
          go_ret2
          exact ⟨by rw [HR.out]; simp [loA], (HG1.out.trans HG.out).trans HG3.out⟩
      · have h3' : ¬ (i : Int) < n := by omega
        have HR : Hid (A = none) := by
          unfold Hid; rw [← HA.out]
          exact first1_no (fun j y hy => HF.out j y (by have := (List.getElem?_eq_some_iff.1 hy).1; have := HN.out; omega) hy)
        go_wp2
        go_ret2
        exact ⟨by rw [HR.out]; rfl, HG1.out.trans HG.out⟩
  · rw [if_neg h2] at HA
    have h2' : (o.kd == 2) = false := by simpa using h2
    by_cases h3 : o.kd = 3
    · rw [if_pos h3] at HA
      rw [h3] at e0 hw1 ⊢
      have hn0 : o.rus.length ≤ 1048576 := HLR.out
      obtain ⟨n, hn⟩ : ∃ n, o.rus.length = n := ⟨_, rfl⟩
      rw [hn] at e5 hw1 hn0 ⊢
      have HN := hideL hn
      clear hn h2 h3 h2'
      go_wp2_with fail
      go_loopw [45] (fun t wr => ∃ (i : Nat), t = .int .i64 i ∧ i ≤ n ∧ Gr w1 wr ∧ Hid (∀ (j : Nat) (y : Ru), j < i → o.rus[j]? = some y → (firstsF C (2, y.sp)).isNone = false)) (fun t _ => n - (intOf t).toNat)
      case atStart => exact ⟨0, rfl, by omega, Gr.refl _, fun j y hj => by omega⟩
      case round =>
        obtain ⟨i, rfl, hi, hgr, HF⟩ := hrel
        have HG := hideL hgr
        clear hgr
        have i0 : (0 : Int) ≤ i := by omega
        by_cases h3 : i < n
        · have h3' : (i : Int) < n := by omega
          rcases hki : o.rus[i]? with _ | t
          · have := List.getElem?_eq_none_iff.1 hki; have := HN.out; omega
          have HT := hideL (HO.out.sr t (List.mem_of_getElem? hki))
          obtain ⟨g, off, hta, c0, c1, c2, c3⟩ := (HO.out.rs.below (HG1.out.trans HG.out).below).rcells hki
          have HKI := hideL hki
          rw [hta]
          clear hki hta
          obtain ⟨w3, hw3⟩ : ∃ X, wr.alloc (.cells #[.string t.pa, .string t.me, .string t.sp, .bool t.al] 58 (0, 0)) = X := ⟨_, rfl⟩
          have HG3 : Hid (Gr wr w3) := by rw [← hw3]; exact Gr.alloc _ _
          have q2 : w3.cell? ⟨wr.heap.size, 2, none⟩ = some (.string t.sp) := by rw [← hw3, cell_block (heap_alloc_new wr _)]; rfl
          obtain ⟨v, hlk⟩ := (HM.out.below ((HG1.out.trans HG.out).trans HG3.out).below).is (key_ok (k := 2) (by decide) (by decide) HT.out.2.2)
          obtain ⟨b, hb⟩ : ∃ b, (firstsF C (2, t.sp)).isNone = b := ⟨_, rfl⟩
          have HBB := hideL hb
          rw [hb] at hlk
          clear hb
          unfold keyV at hlk
          cases b
          · go_wp2_with fail
            go_roundw
            case rel => exact ⟨i + 1, by go_num, by omega, HG.out.trans HG3.out, fun j y hj hy => by
              by_cases hji : j < i
              · exact HF.out j y hji hy
              · obtain rfl : j = i := by omega
                rw [HKI.out] at hy; cases hy; exact HBB.out⟩
            case measure => simp [intOf]; omega
          · have HR : Hid (A = some (i + 1)) := by
              unfold Hid; rw [← HA.out]; exact first1_at HF.out HKI.out HBB.out
            go_wp2
            go_ret2
            exact ⟨by rw [HR.out]; simp [loA], (HG1.out.trans HG.out).trans HG3.out⟩
        · have h3' : ¬ (i : Int) < n := by omega
          have HR : Hid (A = none) := by
            unfold Hid; rw [← HA.out]
            exact first1_no (fun j y hy => HF.out j y (by have := (List.getElem?_eq_some_iff.1 hy).1; have := HN.out; omega) hy)
          go_wp2
          go_ret2
          exact ⟨by rw [HR.out]; rfl, HG1.out.trans HG.out⟩
    · rw [if_neg h3] at HA
      have h3' : (o.kd == 3) = false := by simpa using h3
      by_cases h4 : o.kd = 4
      · rw [if_pos h4] at HA
        rw [h4] at e0 hw1 ⊢
        clear h2 h3 h4 h2' h3'
        obtain ⟨v, hlk⟩ := (HM.out.below HG1.out.below).is (key_ok (k := 3) (by decide) (by decide) HO.out.n3)
        obtain ⟨b, hb⟩ : ∃ b, (firstsF C (3, o.route)).isNone = b := ⟨_, rfl⟩
        rw [hb] at hlk
        unfold keyV at hlk
        cases b
        · have HR : Hid (A = none) := by
            unfold Hid; rw [← HA.out, if_neg]
            intro h; rw [h] at hb; cases hb
          clear hb
          go_wp2
          go_ret2
          exact ⟨by rw [HR.out]; rfl, HG1.out⟩
        · have HR : Hid (A = some 0) := by
            unfold Hid; rw [← HA.out, if_pos]
            exact Option.isNone_iff_eq_none.1 hb
          clear hb
          go_wp2
          go_ret2
          exact ⟨by rw [HR.out]; rfl, HG1.out⟩
      · rw [if_neg h4] at HA
        have h4' : (o.kd == 4) = false := by simpa using h4
        have HR := hideL HA.out.symm
        go_wp2
        go_ret2
        exact ⟨by rw [HR.out]; rfl, HG1.out⟩
end Go.Proofs.Ytmljljpldljpjab

/-
  dangling.
-/
namespace Go.Proofs.Ytmljljpldljpjab
open Go.RowKit
set_option linter.unusedVariables false
set_option linter.unusedSimpArgs false
set_option maxRecDepth 100000
/-- the first of a list that is told, and what of it -/
def lookF (p : Nat → Rs → Option Nat) (C : List Rs) : Option (Nat × Nat) := (List.range C.length).findSome? (fun i => (C[i]?).bind fun r => (p i r).map fun k => (i, k))
theorem findSome_range {α : Type} {f : Nat → Option α} {n i : Nat} {x : α} (h1 : ∀ j, j < i → f j = none) (h2 : f i = some x) (hi : i < n) : (List.range n).findSome? f = some x := by
  rw [List.findSome?_eq_some_iff]
  refine ⟨List.range i, i, (List.range n).drop (i + 1), ?_, h2, fun j hj => h1 j (by simpa using hj)⟩
  apply List.ext_getElem?
  intro j
  by_cases hj : j < i
  · rw [List.getElem?_append_left (by simpa using hj)]
    simp [List.getElem?_range, hj, Nat.lt_trans hj hi]
  · rw [List.getElem?_append_right (by simp; omega)]
    simp only [List.length_range]
    rcases hji : j - i with _ | k
    · have : j = i := by omega
      subst this; simp [hi]
    · have : j = i + 1 + k := by omega
      subst this
      simp [List.getElem?_drop]
theorem lookF_stop {p : Nat → Rs → Option Nat} {C : List Rs} {i k : Nat} {r : Rs} (h1 : ∀ (j : Nat) (x : Rs), j < i → C[j]? = some x → p j x = none) (h2 : C[i]? = some r) (h3 : p i r = some k) : lookF p C = some (i, k) := by
  have hi := (List.getElem?_eq_some_iff.1 h2).1
  unfold lookF
  refine findSome_range (fun j hj => ?_) ?_ hi
  · have : j < C.length := by omega
    rw [List.getElem?_eq_getElem this]
    simp [h1 j _ hj (List.getElem?_eq_getElem this)]
  · rw [h2]; simp [h3]
theorem lookF_none {p : Nat → Rs → Option Nat} {C : List Rs} (h1 : ∀ (j : Nat) (x : Rs), C[j]? = some x → p j x = none) : lookF p C = none := by
  unfold lookF
  rw [List.findSome?_eq_none_iff]
  intro j hj
  have : j < C.length := by simpa using hj
  rw [List.getElem?_eq_getElem this]
  simp [h1 j _ (List.getElem?_eq_getElem this)]
/-- a fault's value -/
def faV (o : Option (Nat × Nat)) (x : Int) : Value := match o with | some (i, k) => .agg #[.int .i64 i, .int .i64 k, .int .i64 x] | none => .agg #[.int .i64 0, .int .i64 0, .int .i64 0]
/-- what a look leaves -/
def FaE (w : World) (v : Value) (e : Ending) (w' : World) : Prop := e = .returned v ∧ Below w.heap.size w w'
def f0 : Obj := .cells #[.int .i64 0, .int .i64 0, .int .i64 0] 41 (0, 0)
set_option maxHeartbeats 16000000 in
theorem dangling_any (w : World) (a : Option Addr) (n c : Nat) (os : List Rx) (hL : Lr w a os) (hn : os.length = n) (hs : n ≤ 4194304) :
    Calls Try.prog 40 #[.slice a n c] w fun e w' => FaE w (faV (lookF (fun _ r => looF (os.map Rx.toRs) r) (os.map Rx.toRs)) 140) e w' := by
  have HL := hideL hL
  have HN := hideL hn
  clear hL hn
  obtain ⟨A, hA⟩ : ∃ A, lookF (fun _ r => looF (os.map Rx.toRs) r) (os.map Rx.toRs) = A := ⟨_, rfl⟩
  have HST : Hid (∀ (i k : Nat) (r : Rs), (∀ (j : Nat) (x : Rs), j < i → (os.map Rx.toRs)[j]? = some x → looF (os.map Rx.toRs) x = none) → (os.map Rx.toRs)[i]? = some r → looF (os.map Rx.toRs) r = some k → A = some (i, k)) := fun i k r h1 h2 h3 => by rw [← hA]; exact lookF_stop h1 h2 h3
  have HAL : Hid ((∀ (j : Nat) (x : Rs), (os.map Rx.toRs)[j]? = some x → looF (os.map Rx.toRs) x = none) → A = none) := fun h => by rw [← hA]; exact lookF_none h
  rw [hA]
  clear hA
  obtain ⟨w1, hw1⟩ : ∃ X, w.alloc f0 = X := ⟨_, rfl⟩
  have HB1 : Hid (Below w.heap.size w w1) := by rw [← hw1]; exact (Gr.alloc _ _).below
  have HX1 : Hid (w1.heap[w.heap.size]? = some f0) := by rw [← hw1]; exact heap_alloc_new w _
  unfold f0 at hw1
  obtain ⟨B, hB⟩ : ∃ B, w.heap.size = B := ⟨_, rfl⟩
  rw [hB] at HX1
  go_enter Try.func40, Try.ntmps40
  go_wp2_with fail
  refine (firsts_any w1 a n c os (HL.out.below HB1.out) HN.out hs).mono ?_
  rintro e w2 ⟨rfl, hm2, hb2⟩
  have HM2 := hideL hm2
  have HX2 := hideL (hb2.cells HX1.out)
  have HB2 := hideL (HB1.out.trans (hb2.mono HB1.out.size))
  obtain ⟨M, hM⟩ : ∃ M, w1.heap.size = M := ⟨_, rfl⟩
  rw [hM] at HM2 ⊢
  clear hm2 hb2 hM hw1 HX1
  go_wp2_with fail
  go_loopw [12] (fun t wr => ∃ (i : Nat), t = .int .i64 i ∧ i ≤ n ∧ Gr w2 wr ∧ Hid (∀ (j : Nat) (x : Rs), j < i → (os.map Rx.toRs)[j]? = some x → looF (os.map Rx.toRs) x = none)) (fun t _ => n - (intOf t).toNat)
  case atStart => exact ⟨0, rfl, by omega, Gr.refl _, fun j y hj => by omega⟩
  case round =>
    obtain ⟨i, rfl, hi, hgr, HF⟩ := hrel
    have HG := hideL hgr
    clear hgr
    have HB := hideL (HB2.out.trans (HG.out.below.mono HB2.out.size))
    have i0 : (0 : Int) ≤ i := by omega
    by_cases h3 : i < n
    · have h3' : (i : Int) < n := by omega
      rcases hki : os[i]? with _ | o
      · have := List.getElem?_eq_none_iff.1 hki; have := HN.out; omega
      have HKI : Hid ((os.map Rx.toRs)[i]? = some o.toRs) := by unfold Hid; simp [hki]
      have HRO := hideL (HL.out.each o (List.mem_of_getElem? hki))
      obtain ⟨g, off, rfl, d0, d1, d2, d3, d4, d5, d6, d7⟩ := (HL.out.row.below HB.out).cells hki
      clear hki
      obtain ⟨w3, hw3⟩ : ∃ X, wr.alloc (boxO o) = X := ⟨_, rfl⟩
      have HG3 : Hid (Gr wr w3) := by rw [← hw3]; exact Gr.alloc _ _
      have HX3 : Hid (w3.heap[wr.heap.size]? = some (boxO o)) := by rw [← hw3]; exact heap_alloc_new wr _
      have HB3 := hideL (HB.out.trans (HG3.out.below.mono HB.out.size))
      unfold boxO at hw3
      obtain ⟨e0, e1, e2, e3, e4, e5, e6, e7⟩ := box8 HX3.out
      have HLO := hideL (loose_any w3 o (os.map Rx.toRs) M n (HRO.out.below HB3.out) (HM2.out.below (HG.out.trans HG3.out).below))
      unfold LoE at HLO
      rcases hl : looF (os.map Rx.toRs) o.toRs with _ | k
      · rw [hl] at HLO
        have HLN := hideL hl
        clear hl
        unfold loA at HLO
        dsimp only [Option.isSome] at HLO
        go_wp2_with fail
        refine HLO.out.mono ?_
        rintro e w4 ⟨rfl, hg4⟩
        have HG4 := hideL hg4
        clear hg4
        go_wp2_with fail
        go_roundw
        case rel => exact ⟨i + 1, by go_num, by omega, (HG.out.trans HG3.out).trans HG4.out, fun j y hj hy => by
          by_cases hji : j < i
          · exact HF.out j y hji hy
          · obtain rfl : j = i := by omega
            rw [HKI.out] at hy; cases hy; exact HLN.out⟩
        case measure => simp [intOf]; omega
      · rw [hl] at HLO
        have HR : Hid (A = some (i, k)) := HST.out i k o.toRs HF.out HKI.out hl
        clear hl
        unfold loA at HLO
        dsimp only [Option.isSome] at HLO
        go_wp2_with fail
        refine HLO.out.mono ?_
        rintro e w4 ⟨rfl, hg4⟩
        have HB4 := hideL (HB3.out.trans (hg4.below.mono HB3.out.size))
        have HX4 := hideL (((HG.out.trans HG3.out).trans hg4).below.cells HX2.out)
        obtain ⟨⟨f0, f1, f2⟩, ⟨g0, g1, g2⟩, ⟨k0, k1, k2⟩, hbut, -⟩ := set3 HX4.out (.int .i64 i) (.int .i64 k) (.int .i64 140)
        have HBT := hideL hbut
        clear hg4 hbut e0 e1 e2 e3 e4 e5 e6 e7 d0 d1 d2 d3 d4 d5 d6 d7 HLO
        go_wp2
        refine bodyPost_ret (v := .agg #[.int .i64 i, .int .i64 k, .int .i64 140]) (by simp [results, Try.results40, go_sem, k0, k1, k2]) rfl ⟨by rw [HR.out]; rfl, ?_⟩
        exact HB4.out.trans (HBT.out.below HB4.out.size (by omega))
    · have h3' : ¬ (i : Int) < n := by omega
      have HR : Hid (A = none) := HAL.out (fun j y hy => HF.out j y (by have := (List.getElem?_eq_some_iff.1 hy).1; have := HN.out; simp only [List.length_map] at *; omega) hy)
      have HX4 := hideL (HG.out.below.cells HX2.out)
      obtain ⟨⟨f0, f1, f2⟩, ⟨g0, g1, g2⟩, ⟨k0, k1, k2⟩, hbut, -⟩ := set3 HX4.out (.int .i64 0) (.int .i64 0) (.int .i64 0)
      have HBT := hideL hbut
      clear hbut
      go_wp2
      refine bodyPost_ret (v := .agg #[.int .i64 0, .int .i64 0, .int .i64 0]) (by simp [results, Try.results40, go_sem, k0, k1, k2]) rfl ⟨by rw [HR.out]; rfl, ?_⟩
      exact HB.out.trans (HBT.out.below HB.out.size (by omega))
end Go.Proofs.Ytmljljpldljpjab

/-
  faultOf: the looks in their order.
-/
namespace Go.Proofs.Ytmljljpldljpjab
open Go.RowKit
set_option linter.unusedVariables false
set_option linter.unusedSimpArgs false
set_option maxRecDepth 100000
def orF (o : Option (Nat × Nat)) (x : Int) (d : Nat × Nat × Int) : Nat × Nat × Int := match o with | some (i, k) => (i, k, x) | none => d
/-- the first fault: its resource, its line, its number -/
def fltF (C : List Rs) (o1 o2 o3 o4 : Option (Nat × Nat)) : Nat × Nat × Int :=
  if astF C ≠ C.length then (astF C, 0, 2) else if 64 < C.length then (0, 0, 124) else orF o1 140 (orF o2 141 (orF o3 142 (orF o4 143 (0, 0, 0))))
def fltV (x : Nat × Nat × Int) : Value := .agg #[.int .i64 x.1, .int .i64 x.2.1, .int .i64 x.2.2]
set_option maxHeartbeats 32000000 in
theorem faultOf_any (w : World) (a : Option Addr) (n c : Nat) (os : List Rx) (o1 o2 o3 o4 : Option (Nat × Nat)) (hL : Lr w a os) (hn : os.length = n) (hs : n ≤ 4194304)
    (h1 : astF (os.map Rx.toRs) = n → n ≤ 64 → ∀ W, Below w.heap.size w W → Calls Try.prog 40 #[.slice a n c] W fun e w' => FaE W (faV o1 140) e w')
    (h2 : astF (os.map Rx.toRs) = n → n ≤ 64 → o1 = none → ∀ W, Below w.heap.size w W → Calls Try.prog 41 #[.slice a n c] W fun e w' => FaE W (faV o2 141) e w')
    (h3 : astF (os.map Rx.toRs) = n → n ≤ 64 → o1 = none → ∀ W, Below w.heap.size w W → Calls Try.prog 42 #[.slice a n c] W fun e w' => FaE W (faV o3 142) e w')
    (h4 : astF (os.map Rx.toRs) = n → n ≤ 64 → o1 = none → ∀ W, Below w.heap.size w W → Calls Try.prog 43 #[.slice a n c] W fun e w' => FaE W (faV o4 143) e w') :
    Calls Try.prog 26 #[.slice a n c] w fun e w' => FaE w (fltV (fltF (os.map Rx.toRs) o1 o2 o3 o4)) e w' := by
  have HL := hideL hL
  have HN := hideL hn
  clear hL hn
  obtain ⟨A, hA⟩ : ∃ A, astF (os.map Rx.toRs) = A := ⟨_, rfl⟩
  rw [hA] at h1 h2 h3 h4
  have hAl : A ≤ n := by have := astF_le (os.map Rx.toRs); rw [hA] at this; simpa [HN.out] using this
  have HAS : Hid (∀ W, Below w.heap.size w W → Calls Try.prog 28 #[.slice a n c] W fun e w' => e = .returned (.int .i64 A) ∧ Gr W w') := fun W hW => by
    have := astray_any W a n c os (HL.out.below hW) HN.out (by omega)
    rw [hA] at this
    exact this
  obtain ⟨R, hR⟩ : ∃ R, fltF (os.map Rx.toRs) o1 o2 o3 o4 = R := ⟨_, rfl⟩
  have HR : Hid (∀ x : Nat × Nat × Int, (if A ≠ n then (A, 0, 2) else if 64 < n then (0, 0, 124) else orF o1 140 (orF o2 141 (orF o3 142 (orF o4 143 (0, 0, 0))))) = x → R = x) := fun x h => by
    rw [← hR, ← h]
    unfold fltF
    rw [hA, List.length_map, HN.out]
  rw [hR]
  clear hR hA
  obtain ⟨w1, hw1⟩ : ∃ X, w.alloc f0 = X := ⟨_, rfl⟩
  have HB1 : Hid (Below w.heap.size w w1) := by rw [← hw1]; exact (Gr.alloc _ _).below
  have HX1 : Hid (w1.heap[w.heap.size]? = some f0) := by rw [← hw1]; exact heap_alloc_new w _
  unfold f0 at hw1
  obtain ⟨B, hB⟩ : ∃ B, w.heap.size = B := ⟨_, rfl⟩
  rw [hB] at HX1
  go_enter Try.func26, Try.ntmps26
  go_wp2_with fail
  refine (HAS.out w1 HB1.out).mono ?_
  rintro e w2 ⟨rfl, hg2⟩
  have HX2 := hideL (hg2.below.cells HX1.out)
  have HB2 := hideL (HB1.out.trans (hg2.below.mono HB1.out.size))
  clear hg2 hw1 HX1
  by_cases hAn : A = n
  · subst hAn
    by_cases h64 : 64 < A
    · have h64' : (64 : Int) < A := by omega
      have HE : Hid (R = (0, 0, 124)) := HR.out _ (by rw [if_neg (fun h => h rfl), if_pos h64])
      obtain ⟨⟨f0, f1, f2⟩, ⟨g0, g1, g2⟩, ⟨k0, k1, k2⟩, hbut, -⟩ := set3 HX2.out (.int .i64 0) (.int .i64 0) (.int .i64 124)
      have HBT := hideL hbut
      clear hbut
      go_wp2
      refine bodyPost_ret (v := .agg #[.int .i64 0, .int .i64 0, .int .i64 124]) (by simp [results, Try.results26, go_sem, k0, k1, k2]) rfl ⟨by rw [HE.out]; rfl, ?_⟩
      exact HB2.out.trans (HBT.out.below HB2.out.size (by omega))
    · have h64' : ¬ (64 : Int) < A := by omega
      replace h1 := hideL (h1 rfl (by omega))
      replace h2 := hideL (h2 rfl (by omega))
      replace h3 := hideL (h3 rfl (by omega))
      replace h4 := hideL (h4 rfl (by omega))
      replace HR : Hid (∀ x : Nat × Nat × Int, orF o1 140 (orF o2 141 (orF o3 142 (orF o4 143 (0, 0, 0)))) = x → R = x) := fun x h => HR.out x (by rw [if_neg (fun h => h rfl), if_neg h64]; exact h)
      go_wp2_with fail
      obtain ⟨w3, hw3⟩ : ∃ X, w2.alloc (.cells #[.func (.func 40) #[] #[], .func (.func 41) #[] #[], .func (.func 42) #[] #[], .func (.func 43) #[] #[]] 63 (0, 0)) = X := ⟨_, rfl⟩
      have HG3 : Hid (Gr w2 w3) := by rw [← hw3]; exact Gr.alloc _ _
      have HY3 : Hid (w3.heap[w2.heap.size]? = some (.cells #[.func (.func 40) #[] #[], .func (.func 41) #[] #[], .func (.func 42) #[] #[], .func (.func 43) #[] #[]] 63 (0, 0))) := by rw [← hw3]; exact heap_alloc_new w2 _
      have HB3 := hideL (HB2.out.trans (HG3.out.below.mono HB2.out.size))
      have HX3 := hideL (HG3.out.below.cells HX2.out)
      rw [hw3]
      clear hw3
      obtain ⟨G, hG⟩ : ∃ G, w2.heap.size = G := ⟨_, rfl⟩
      rw [hG] at HY3 ⊢
      clear HG3 HX2 HB2 hG HAS hs
      refine wp_loop_rounds 5 ?_
      rw [rounds_succ]
      have y1 : w3.cell? ⟨G, 0, none⟩ = some (.func (.func 40) #[] #[]) := by rw [cell_block HY3.out]; rfl
      have HC1 := hideL (h1.out w3 HB3.out)
      rcases o1 with _ | ⟨i, k⟩
      rotate_left
      · have HE : Hid (R = (i, k, 140)) := HR.out _ rfl
        unfold faV at HC1
        dsimp only at HC1
        go_wp2_with fail
        refine HC1.out.mono ?_
        rintro e w4 ⟨rfl, hb4⟩
        obtain ⟨w5, hw5⟩ : ∃ X, w4.alloc (.cells #[.int .i64 i, .int .i64 k, .int .i64 140] 41 (0, 0)) = X := ⟨_, rfl⟩
        have HB5 : Hid (Below w.heap.size w w5) := by rw [← hw5]; exact (HB3.out.trans (hb4.mono HB3.out.size)).trans ((Gr.alloc _ _).below.mono (HB3.out.trans (hb4.mono HB3.out.size)).size)
        have HX5 : Hid (w5.heap[B]? = some Go.Proofs.Ytmljljpldljpjab.f0) := by rw [← hw5]; exact (Gr.alloc _ _).below.cells (hb4.cells HX3.out)
        have z0 : w5.cell? ⟨w4.heap.size, 0, none⟩ = some (.int .i64 i) := by rw [← hw5, cell_block (heap_alloc_new w4 _)]; rfl
        have z1 : w5.cell? ⟨w4.heap.size, 1, none⟩ = some (.int .i64 k) := by rw [← hw5, cell_block (heap_alloc_new w4 _)]; rfl
        have z2 : w5.cell? ⟨w4.heap.size, 2, none⟩ = some (.int .i64 140) := by rw [← hw5, cell_block (heap_alloc_new w4 _)]; rfl
        obtain ⟨⟨f0, f1, f2⟩, ⟨g0, g1, g2⟩, ⟨k0, k1, k2⟩, hbut, -⟩ := set3 HX5.out (.int .i64 i) (.int .i64 k) (.int .i64 140)
        have HBT := hideL hbut
        clear hbut hb4 HX5
        go_wp2
        refine bodyPost_ret (v := .agg #[.int .i64 i, .int .i64 k, .int .i64 140]) (by simp [results, Try.results26, go_sem, k0, k1, k2]) rfl ⟨by rw [HE.out]; rfl, ?_⟩
        exact HB5.out.trans (HBT.out.below HB5.out.size (by omega))
      have HO1 : Hid ((none : Option (Nat × Nat)) = none) := rfl
      unfold faV at HC1
      dsimp only at HC1
      go_wp2_with fail
      refine HC1.out.mono ?_
      rintro e w4 ⟨rfl, hb4⟩
      go_wp2_with fail
      obtain ⟨w13, hw13⟩ : ∃ X, w4.alloc (.cells #[.int .i64 0, .int .i64 0, .int .i64 0] 41 (0, 0)) = X := ⟨_, rfl⟩
      rw [hw13]
      have HB13 : Hid (Below w.heap.size w w13) := by rw [← hw13]; exact (HB3.out.trans (hb4.mono HB3.out.size)).trans ((Gr.alloc _ _).below.mono (HB3.out.trans (hb4.mono HB3.out.size)).size)
      have HX13 : Hid (w13.heap[B]? = some Go.Proofs.Ytmljljpldljpjab.f0) := by rw [← hw13]; exact (Gr.alloc _ _).below.cells (hb4.cells HX3.out)
      have HY13 : Hid (w13.heap[G]? = some (.cells #[.func (.func 40) #[] #[], .func (.func 41) #[] #[], .func (.func 42) #[] #[], .func (.func 43) #[] #[]] 63 (0, 0))) := by rw [← hw13]; exact (Gr.alloc _ _).below.cells (hb4.cells HY3.out)
      clear hb4 HX3 HY3 HB3 y1 HC1
      clear hw13
      rw [rounds_succ]
      have y2 : w13.cell? ⟨G, 1, none⟩ = some (.func (.func 41) #[] #[]) := by rw [cell_block HY13.out]; rfl
      have HC2 := hideL (h2.out HO1.out w13 HB13.out)
      rcases o2 with _ | ⟨i, k⟩
      rotate_left
      · have HE : Hid (R = (i, k, 141)) := HR.out _ rfl
        unfold faV at HC2
        dsimp only at HC2
        go_wp2_with fail
        refine HC2.out.mono ?_
        rintro e w4 ⟨rfl, hb4⟩
        obtain ⟨w5, hw5⟩ : ∃ X, w4.alloc (.cells #[.int .i64 i, .int .i64 k, .int .i64 141] 41 (0, 0)) = X := ⟨_, rfl⟩
        have HB5 : Hid (Below w.heap.size w w5) := by rw [← hw5]; exact (HB13.out.trans (hb4.mono HB13.out.size)).trans ((Gr.alloc _ _).below.mono (HB13.out.trans (hb4.mono HB13.out.size)).size)
        have HX5 : Hid (w5.heap[B]? = some Go.Proofs.Ytmljljpldljpjab.f0) := by rw [← hw5]; exact (Gr.alloc _ _).below.cells (hb4.cells HX13.out)
        have z0 : w5.cell? ⟨w4.heap.size, 0, none⟩ = some (.int .i64 i) := by rw [← hw5, cell_block (heap_alloc_new w4 _)]; rfl
        have z1 : w5.cell? ⟨w4.heap.size, 1, none⟩ = some (.int .i64 k) := by rw [← hw5, cell_block (heap_alloc_new w4 _)]; rfl
        have z2 : w5.cell? ⟨w4.heap.size, 2, none⟩ = some (.int .i64 141) := by rw [← hw5, cell_block (heap_alloc_new w4 _)]; rfl
        obtain ⟨⟨f0, f1, f2⟩, ⟨g0, g1, g2⟩, ⟨k0, k1, k2⟩, hbut, -⟩ := set3 HX5.out (.int .i64 i) (.int .i64 k) (.int .i64 141)
        have HBT := hideL hbut
        clear hbut hb4 HX5
        go_wp2
        refine bodyPost_ret (v := .agg #[.int .i64 i, .int .i64 k, .int .i64 141]) (by simp [results, Try.results26, go_sem, k0, k1, k2]) rfl ⟨by rw [HE.out]; rfl, ?_⟩
        exact HB5.out.trans (HBT.out.below HB5.out.size (by omega))
      unfold faV at HC2
      dsimp only at HC2
      go_wp2_with fail
      refine HC2.out.mono ?_
      rintro e w4 ⟨rfl, hb4⟩
      go_wp2_with fail
      obtain ⟨w23, hw23⟩ : ∃ X, w4.alloc (.cells #[.int .i64 0, .int .i64 0, .int .i64 0] 41 (0, 0)) = X := ⟨_, rfl⟩
      rw [hw23]
      have HB23 : Hid (Below w.heap.size w w23) := by rw [← hw23]; exact (HB13.out.trans (hb4.mono HB13.out.size)).trans ((Gr.alloc _ _).below.mono (HB13.out.trans (hb4.mono HB13.out.size)).size)
      have HX23 : Hid (w23.heap[B]? = some Go.Proofs.Ytmljljpldljpjab.f0) := by rw [← hw23]; exact (Gr.alloc _ _).below.cells (hb4.cells HX13.out)
      have HY23 : Hid (w23.heap[G]? = some (.cells #[.func (.func 40) #[] #[], .func (.func 41) #[] #[], .func (.func 42) #[] #[], .func (.func 43) #[] #[]] 63 (0, 0))) := by rw [← hw23]; exact (Gr.alloc _ _).below.cells (hb4.cells HY13.out)
      clear hb4 HX13 HY13 HB13 y2 HC2
      clear hw23
      rw [rounds_succ]
      have y3 : w23.cell? ⟨G, 2, none⟩ = some (.func (.func 42) #[] #[]) := by rw [cell_block HY23.out]; rfl
      have HC3 := hideL (h3.out HO1.out w23 HB23.out)
      rcases o3 with _ | ⟨i, k⟩
      rotate_left
      · have HE : Hid (R = (i, k, 142)) := HR.out _ rfl
        unfold faV at HC3
        dsimp only at HC3
        go_wp2_with fail
        refine HC3.out.mono ?_
        rintro e w4 ⟨rfl, hb4⟩
        obtain ⟨w5, hw5⟩ : ∃ X, w4.alloc (.cells #[.int .i64 i, .int .i64 k, .int .i64 142] 41 (0, 0)) = X := ⟨_, rfl⟩
        have HB5 : Hid (Below w.heap.size w w5) := by rw [← hw5]; exact (HB23.out.trans (hb4.mono HB23.out.size)).trans ((Gr.alloc _ _).below.mono (HB23.out.trans (hb4.mono HB23.out.size)).size)
        have HX5 : Hid (w5.heap[B]? = some Go.Proofs.Ytmljljpldljpjab.f0) := by rw [← hw5]; exact (Gr.alloc _ _).below.cells (hb4.cells HX23.out)
        have z0 : w5.cell? ⟨w4.heap.size, 0, none⟩ = some (.int .i64 i) := by rw [← hw5, cell_block (heap_alloc_new w4 _)]; rfl
        have z1 : w5.cell? ⟨w4.heap.size, 1, none⟩ = some (.int .i64 k) := by rw [← hw5, cell_block (heap_alloc_new w4 _)]; rfl
        have z2 : w5.cell? ⟨w4.heap.size, 2, none⟩ = some (.int .i64 142) := by rw [← hw5, cell_block (heap_alloc_new w4 _)]; rfl
        obtain ⟨⟨f0, f1, f2⟩, ⟨g0, g1, g2⟩, ⟨k0, k1, k2⟩, hbut, -⟩ := set3 HX5.out (.int .i64 i) (.int .i64 k) (.int .i64 142)
        have HBT := hideL hbut
        clear hbut hb4 HX5
        go_wp2
        refine bodyPost_ret (v := .agg #[.int .i64 i, .int .i64 k, .int .i64 142]) (by simp [results, Try.results26, go_sem, k0, k1, k2]) rfl ⟨by rw [HE.out]; rfl, ?_⟩
        exact HB5.out.trans (HBT.out.below HB5.out.size (by omega))
      unfold faV at HC3
      dsimp only at HC3
      go_wp2_with fail
      refine HC3.out.mono ?_
      rintro e w4 ⟨rfl, hb4⟩
      go_wp2_with fail
      obtain ⟨w33, hw33⟩ : ∃ X, w4.alloc (.cells #[.int .i64 0, .int .i64 0, .int .i64 0] 41 (0, 0)) = X := ⟨_, rfl⟩
      rw [hw33]
      have HB33 : Hid (Below w.heap.size w w33) := by rw [← hw33]; exact (HB23.out.trans (hb4.mono HB23.out.size)).trans ((Gr.alloc _ _).below.mono (HB23.out.trans (hb4.mono HB23.out.size)).size)
      have HX33 : Hid (w33.heap[B]? = some Go.Proofs.Ytmljljpldljpjab.f0) := by rw [← hw33]; exact (Gr.alloc _ _).below.cells (hb4.cells HX23.out)
      have HY33 : Hid (w33.heap[G]? = some (.cells #[.func (.func 40) #[] #[], .func (.func 41) #[] #[], .func (.func 42) #[] #[], .func (.func 43) #[] #[]] 63 (0, 0))) := by rw [← hw33]; exact (Gr.alloc _ _).below.cells (hb4.cells HY23.out)
      clear hb4 HX23 HY23 HB23 y3 HC3
      clear hw33
      rw [rounds_succ]
      have y4 : w33.cell? ⟨G, 3, none⟩ = some (.func (.func 43) #[] #[]) := by rw [cell_block HY33.out]; rfl
      have HC4 := hideL (h4.out HO1.out w33 HB33.out)
      rcases o4 with _ | ⟨i, k⟩
      rotate_left
      · have HE : Hid (R = (i, k, 143)) := HR.out _ rfl
        unfold faV at HC4
        dsimp only at HC4
        go_wp2_with fail
        refine HC4.out.mono ?_
        rintro e w4 ⟨rfl, hb4⟩
        obtain ⟨w5, hw5⟩ : ∃ X, w4.alloc (.cells #[.int .i64 i, .int .i64 k, .int .i64 143] 41 (0, 0)) = X := ⟨_, rfl⟩
        have HB5 : Hid (Below w.heap.size w w5) := by rw [← hw5]; exact (HB33.out.trans (hb4.mono HB33.out.size)).trans ((Gr.alloc _ _).below.mono (HB33.out.trans (hb4.mono HB33.out.size)).size)
        have HX5 : Hid (w5.heap[B]? = some Go.Proofs.Ytmljljpldljpjab.f0) := by rw [← hw5]; exact (Gr.alloc _ _).below.cells (hb4.cells HX33.out)
        have z0 : w5.cell? ⟨w4.heap.size, 0, none⟩ = some (.int .i64 i) := by rw [← hw5, cell_block (heap_alloc_new w4 _)]; rfl
        have z1 : w5.cell? ⟨w4.heap.size, 1, none⟩ = some (.int .i64 k) := by rw [← hw5, cell_block (heap_alloc_new w4 _)]; rfl
        have z2 : w5.cell? ⟨w4.heap.size, 2, none⟩ = some (.int .i64 143) := by rw [← hw5, cell_block (heap_alloc_new w4 _)]; rfl
        obtain ⟨⟨f0, f1, f2⟩, ⟨g0, g1, g2⟩, ⟨k0, k1, k2⟩, hbut, -⟩ := set3 HX5.out (.int .i64 i) (.int .i64 k) (.int .i64 143)
        have HBT := hideL hbut
        clear hbut hb4 HX5
        go_wp2
        refine bodyPost_ret (v := .agg #[.int .i64 i, .int .i64 k, .int .i64 143]) (by simp [results, Try.results26, go_sem, k0, k1, k2]) rfl ⟨by rw [HE.out]; rfl, ?_⟩
        exact HB5.out.trans (HBT.out.below HB5.out.size (by omega))
      unfold faV at HC4
      dsimp only at HC4
      go_wp2_with fail
      refine HC4.out.mono ?_
      rintro e w4 ⟨rfl, hb4⟩
      go_wp2_with fail
      obtain ⟨w43, hw43⟩ : ∃ X, w4.alloc (.cells #[.int .i64 0, .int .i64 0, .int .i64 0] 41 (0, 0)) = X := ⟨_, rfl⟩
      rw [hw43]
      have HB43 : Hid (Below w.heap.size w w43) := by rw [← hw43]; exact (HB33.out.trans (hb4.mono HB33.out.size)).trans ((Gr.alloc _ _).below.mono (HB33.out.trans (hb4.mono HB33.out.size)).size)
      have HX43 : Hid (w43.heap[B]? = some Go.Proofs.Ytmljljpldljpjab.f0) := by rw [← hw43]; exact (Gr.alloc _ _).below.cells (hb4.cells HX33.out)
      have HY43 : Hid (w43.heap[G]? = some (.cells #[.func (.func 40) #[] #[], .func (.func 41) #[] #[], .func (.func 42) #[] #[], .func (.func 43) #[] #[]] 63 (0, 0))) := by rw [← hw43]; exact (Gr.alloc _ _).below.cells (hb4.cells HY33.out)
      clear hb4 HX33 HY33 HB33 y4 HC4
      clear hw43
      rw [rounds_succ]
      have HE : Hid (R = (0, 0, 0)) := HR.out _ rfl
      obtain ⟨⟨f0, f1, f2⟩, ⟨g0, g1, g2⟩, ⟨k0, k1, k2⟩, hbut, -⟩ := set3 HX43.out (.int .i64 0) (.int .i64 0) (.int .i64 0)
      have HBT := hideL hbut
      clear hbut
      go_wp2
      refine bodyPost_ret (v := .agg #[.int .i64 0, .int .i64 0, .int .i64 0]) (by simp [results, Try.results26, go_sem, k0, k1, k2]) rfl ⟨by rw [HE.out]; rfl, ?_⟩
      exact HB43.out.trans (HBT.out.below HB43.out.size (by omega))
  · have hAn' : (A : Int) < n := by omega
    have HE : Hid (R = (A, 0, 2)) := HR.out _ (by rw [if_pos hAn])
    obtain ⟨⟨f0, f1, f2⟩, ⟨g0, g1, g2⟩, ⟨k0, k1, k2⟩, hbut, -⟩ := set3 HX2.out (.int .i64 A) (.int .i64 0) (.int .i64 2)
    have HBT := hideL hbut
    clear hbut hAn
    go_wp2
    refine bodyPost_ret (v := .agg #[.int .i64 A, .int .i64 0, .int .i64 2]) (by simp [results, Try.results26, go_sem, k0, k1, k2]) rfl ⟨by rw [HE.out]; rfl, ?_⟩
    exact HB2.out.trans (HBT.out.below HB2.out.size (by omega))
end Go.Proofs.Ytmljljpldljpjab

/-
  Check.
-/
namespace Go.Proofs.Ytmljljpldljpjab
open Go.RowKit
set_option linter.unusedVariables false
set_option linter.unusedSimpArgs false
set_option maxRecDepth 100000
theorem f3_cells {W : World} {b : Nat} {x0 x1 x2 : Value} {t : TypeId} (h : W.heap[b]? = some (.cells #[x0, x1, x2] t (0, 0))) : W.cell? ⟨b, 0, none⟩ = some x0 ∧ W.cell? ⟨b, 1, none⟩ = some x1 ∧ W.cell? ⟨b, 2, none⟩ = some x2 := by
  refine ⟨?_, ?_, ?_⟩ <;> (rw [cell_block h]; rfl)
/-- what Check tells of a fault -/
def ChB (w : World) (x : Nat × Nat × Int) (e : Ending) (w' : World) : Prop := e = .returned (.tuple #[.slice none 0 0, fltV x]) ∧ Below w.heap.size w w'
set_option maxHeartbeats 16000000 in
theorem check_bad (w : World) (a : Option Addr) (n c : Nat) (x : Nat × Nat × Int) (hx : x.2.2 ≠ 0)
    (hF : ∀ W, Below w.heap.size w W → Calls Try.prog 26 #[.slice a n c] W fun e w' => FaE W (fltV x) e w') :
    Calls Try.prog 13 #[.slice a n c] w fun e w' => ChB w x e w' := by
  have HF := hideL hF
  obtain ⟨i, k, x⟩ := x
  unfold fltV at HF
  unfold ChB fltV
  dsimp only at HF hx ⊢
  have hx' : (x != 0) = true := by simpa using hx
  obtain ⟨w1, hw1⟩ : ∃ X, w.alloc f0 = X := ⟨_, rfl⟩
  have HB1 : Hid (Below w.heap.size w w1) := by rw [← hw1]; exact (Gr.alloc _ _).below
  have HX1 : Hid (w1.heap[w.heap.size]? = some f0) := by rw [← hw1]; exact heap_alloc_new w _
  unfold f0 at hw1
  obtain ⟨B, hB⟩ : ∃ B, w.heap.size = B := ⟨_, rfl⟩
  rw [hB] at HX1
  clear hF hx
  go_enter Try.func13, Try.ntmps13
  go_wp2_with fail
  refine (HF.out w1 HB1.out).mono ?_
  rintro e w2 ⟨rfl, hb2⟩
  have HX2 := hideL (hb2.cells HX1.out)
  have HB2 := hideL (HB1.out.trans (hb2.mono HB1.out.size))
  clear hb2 hw1 HX1
  go_wp2_with fail
  obtain ⟨w3, hw3⟩ : ∃ X, w2.alloc (.cells #[.int .i64 i, .int .i64 k, .int .i64 x] 41 (0, 0)) = X := ⟨_, rfl⟩
  rw [hw3]
  have HB3 : Hid (Below w.heap.size w w3) := by rw [← hw3]; exact HB2.out.trans ((Gr.alloc _ _).below.mono HB2.out.size)
  have HX3 : Hid (w3.heap[B]? = some f0) := by rw [← hw3]; exact (Gr.alloc _ _).below.cells HX2.out
  obtain ⟨z0, z1, z2⟩ : w3.cell? ⟨w2.heap.size, 0, none⟩ = some (.int .i64 i) ∧ w3.cell? ⟨w2.heap.size, 1, none⟩ = some (.int .i64 k) ∧ w3.cell? ⟨w2.heap.size, 2, none⟩ = some (.int .i64 x) := by
    rw [← hw3]; exact f3_cells (heap_alloc_new w2 _)
  clear hw3
  obtain ⟨⟨f0, f1, f2⟩, ⟨g0, g1, g2⟩, ⟨k0, k1, k2⟩, hbut, -⟩ := set3 HX3.out (.int .i64 i) (.int .i64 k) (.int .i64 x)
  have HBT := hideL hbut
  clear hbut
  go_region
  go_wp2
  refine bodyPost_ret (v := .tuple #[.slice none 0 0, .agg #[.int .i64 i, .int .i64 k, .int .i64 x]]) (by simp [results, Try.results13, go_sem, k0, k1, k2]) rfl ⟨rfl, ?_⟩
  exact (HB3.out.trans (HBT.out.below HB3.out.size (by omega))).trans ((Gr.drewN _ 1).below.mono (HB3.out.trans (HBT.out.below HB3.out.size (by omega))).size)
end Go.Proofs.Ytmljljpldljpjab

/-
  awake.
-/
namespace Go.Proofs.Ytmljljpldljpjab
open Go.RowKit
set_option linter.unusedVariables false
set_option linter.unusedSimpArgs false
set_option maxRecDepth 100000
def rA (ea : Option Addr) : Rx := ⟨⟨1, ⟨#[97]⟩, [⟨#[101]⟩], [], ⟨#[]⟩, [], ⟨#[]⟩, false⟩, ea, 1, none, 0, none, 0⟩
def rS (ta : Option Addr) : Rx := ⟨⟨2, ⟨#[115]⟩, [], [⟨⟨#[97]⟩, ⟨#[]⟩, 4636737291354636288⟩], ⟨#[]⟩, [], ⟨#[]⟩, false⟩, none, 0, ta, 1, none, 0⟩
theorem rA_says (ea : Option Addr) : mgL [] [(rA ea).toRs] = [(rA ea).toRs] ∧ mgA [] [(rA ea).toRs] = 0 ∧ mgX [] [(rA ea).toRs] = 0 := by
  have : mrF [] [(rA ea).toRs] = none := by rfl
  unfold mgL mgA mgX
  rw [this]
  exact ⟨rfl, rfl, rfl⟩
theorem rS_says (ta : Option Addr) : lookF (fun _ r => looF [(rS ta).toRs] r) [(rS ta).toRs] = some (0, 1) ∧ astF [(rS ta).toRs] = 1 := by
  exact ⟨rfl, rfl⟩
theorem cel_one {W : World} {B k : Nat} {t : TypeId} {r : List Value} (h : W.heap[B]? = some (.cells r.toArray t (0, 0))) : Cel W (some ⟨B, 0, none⟩) k [r] := by
  refine .inr ⟨B, 0, rfl, fun i r' hi j u hu => ?_⟩
  obtain rfl : i = 0 := by have := (List.getElem?_eq_some_iff.1 hi).1; simp at this; exact this
  simp at hi
  subst hi
  rw [cell_block h]
  simpa using hu
theorem okS_small {l : List UInt8} (h : l.length ≤ 10) : okS ⟨l.toArray⟩ := by unfold okS; show l.toArray.size ≤ _; simp; omega
theorem rA_in {W : World} {g B : Nat} (h1 : W.heap[g]? = some (.cells #[.string ⟨#[101]⟩] 9 (0, 0))) (h2 : W.heap[B]? = some (boxO (rA (some ⟨g, 0, none⟩)))) : Lr W (some ⟨B, 0, none⟩) [rA (some ⟨g, 0, none⟩)] := by
  refine ⟨fun o ho => ?_, cel_one (r := (rA (some ⟨g, 0, none⟩)).row) h2⟩
  obtain rfl := List.mem_singleton.1 ho
  refine ⟨cel_one (r := [.string ⟨#[101]⟩]) h1, .inl rfl, .inl rfl, by show (-9223372036854775808 : Int) ≤ 1 ∧ (1 : Int) ≤ 9223372036854775807; omega, okS_small (l := [97]) (by decide), okS_small (l := []) (by decide), okS_small (l := []) (by decide), fun x hx => ?_, fun x hx => (by cases hx), fun x hx => (by cases hx), Nat.le_of_ble_eq_true rfl, Nat.le_of_ble_eq_true rfl, Nat.le_of_ble_eq_true rfl⟩
  obtain rfl := List.mem_singleton.1 hx
  exact okS_small (l := [101]) (by decide)
theorem rS_in {W : World} {g B : Nat} (h1 : W.heap[g]? = some (.cells #[.string ⟨#[97]⟩, .string ⟨#[]⟩, .float .f64 4636737291354636288] 46 (0, 0))) (h2 : W.heap[B]? = some (boxO (rS (some ⟨g, 0, none⟩)))) : Lr W (some ⟨B, 0, none⟩) [rS (some ⟨g, 0, none⟩)] := by
  refine ⟨fun o ho => ?_, cel_one (r := (rS (some ⟨g, 0, none⟩)).row) h2⟩
  obtain rfl := List.mem_singleton.1 ho
  refine ⟨.inl rfl, cel_one (r := [.string ⟨#[97]⟩, .string ⟨#[]⟩, .float .f64 4636737291354636288]) h1, .inl rfl, by show (-9223372036854775808 : Int) ≤ 2 ∧ (2 : Int) ≤ 9223372036854775807; omega, okS_small (l := [115]) (by decide), okS_small (l := []) (by decide), okS_small (l := []) (by decide), fun x hx => (by cases hx), fun x hx => ?_, fun x hx => (by cases hx), Nat.le_of_ble_eq_true rfl, Nat.le_of_ble_eq_true rfl, Nat.le_of_ble_eq_true rfl⟩
  obtain rfl := List.mem_singleton.1 hx
  exact ⟨okS_small (l := [97]) (by decide), okS_small (l := []) (by decide), by decide⟩
theorem al_size (w : World) (o : Obj) : (w.alloc o).heap.size = w.heap.size + 1 := Array.size_push _
theorem new_at (w : World) (o : Obj) {n : Nat} (h : w.heap.size = n) : (w.alloc o).heap[n]? = some o := by subst h; exact heap_alloc_new w o
theorem rA_lr (w : World) : Lr (((w.alloc (.cells #[.string ⟨#[101]⟩] 9 (0, 0))).alloc (boxO (rA (some ⟨w.heap.size, 0, none⟩)))).alloc (boxO (rA (some ⟨w.heap.size, 0, none⟩)))) (some ⟨w.heap.size + 1 + 1, 0, none⟩) [rA (some ⟨w.heap.size, 0, none⟩)] := by
  refine rA_in ?_ (new_at _ _ (by rw [al_size, al_size]))
  exact (Gr.alloc _ _).below.cells ((Gr.alloc _ _).below.cells (heap_alloc_new w _))
theorem rS_lr (w : World) : Lr ((w.alloc (.cells #[.string ⟨#[97]⟩, .string ⟨#[]⟩, .float .f64 4636737291354636288] 46 (0, 0))).alloc (boxO (rS (some ⟨w.heap.size, 0, none⟩)))) (some ⟨w.heap.size + 1, 0, none⟩) [rS (some ⟨w.heap.size, 0, none⟩)] := by
  refine rS_in ?_ (new_at _ _ (by rw [al_size]))
  exact (Gr.alloc _ _).below.cells (heap_alloc_new w _)
set_option maxHeartbeats 16000000 in
theorem awake_any (w : World) : Calls Try.prog 4 #[] w fun e w' => e = .returned (.bool true) ∧ Below w.heap.size w w' := by
  have HA := hideL (rA_lr w)
  have HG := hideL (((Gr.alloc w (.cells #[.string ⟨#[101]⟩] 9 (0, 0))).trans (Gr.alloc _ (boxO (rA (some ⟨w.heap.size, 0, none⟩))))).trans (Gr.alloc _ (boxO (rA (some ⟨w.heap.size, 0, none⟩)))))
  unfold boxO at HA HG
  obtain ⟨w1, hw1⟩ : ∃ X, (((w.alloc (.cells #[.string ⟨#[101]⟩] 9 (0, 0))).alloc (.cells #[.int .i64 1, .string ⟨#[97]⟩, .slice (some ⟨w.heap.size, 0, none⟩) 1 1, .slice none 0 0, .string ⟨#[]⟩, .slice none 0 0, .string ⟨#[]⟩, .bool false] 34 (0, 0))).alloc (.cells #[.int .i64 1, .string ⟨#[97]⟩, .slice (some ⟨w.heap.size, 0, none⟩) 1 1, .slice none 0 0, .string ⟨#[]⟩, .slice none 0 0, .string ⟨#[]⟩, .bool false] 34 (0, 0))) = X := ⟨_, rfl⟩
  have HA1 : Hid (Lr w1 (some ⟨w.heap.size + 1 + 1, 0, none⟩) [rA (some ⟨w.heap.size, 0, none⟩)]) := by rw [← hw1]; exact HA.out
  have HG1 : Hid (Gr w w1) := by rw [← hw1]; exact HG.out
  have HM : Hid (Calls Try.prog 6 #[.slice none 0 0, .slice (some ⟨w.heap.size + 1 + 1, 0, none⟩) 1 1] w1 fun e w' => ∃ a k, e = .returned (.tuple #[.slice a 1 k, .int .i64 0, .int .i64 0]) ∧ (∃ g off, a = some ⟨g, off, none⟩ ∧ w'.cell? ⟨g, off + 1, none⟩ = some (.string ⟨#[97]⟩)) ∧ Below w1.heap.size w1 w') := by
    have := merge_e w1 none (some ⟨w.heap.size + 1 + 1, 0, none⟩) 0 1 [] [rA (some ⟨w.heap.size, 0, none⟩)] (lr_nil _) HA1.out (Nat.zero_le _) (Nat.le_of_ble_eq_true rfl)
    refine this.mono ?_
    rintro e w' ⟨a, k, Q, rfl, h1, h2, h3, h4⟩
    obtain ⟨r1, r2, r3⟩ := rA_says (some ⟨w.heap.size, 0, none⟩)
    have e1 : mgL (([] : List Rx).map Rx.toRs) ([rA (some ⟨w.heap.size, 0, none⟩)].map Rx.toRs) = [(rA (some ⟨w.heap.size, 0, none⟩)).toRs] := r1
    have e2 : mgA (([] : List Rx).map Rx.toRs) ([rA (some ⟨w.heap.size, 0, none⟩)].map Rx.toRs) = 0 := r2
    have e3 : mgX (([] : List Rx).map Rx.toRs) ([rA (some ⟨w.heap.size, 0, none⟩)].map Rx.toRs) = 0 := r3
    rw [e1] at h1 h3 ⊢
    rw [e2, e3]
    refine ⟨a, k, rfl, ?_, h4⟩
    match Q, h1 with
    | [q], _ =>
      obtain ⟨g, off, ea, _, c1, _⟩ := h2.row.cells (i := 0) (o := q) rfl
      have hq : q.toRs = (rA (some ⟨w.heap.size, 0, none⟩)).toRs := by simpa using h3
      refine ⟨g, off, ea, ?_⟩
      rw [Nat.zero_mul, Nat.add_zero] at c1
      rw [c1, hq]; rfl
  clear HA HG HA1
  go_enter Try.func4, Try.ntmps4
  go_wp2_with fail
  refine HM.out.mono ?_
  rintro e w2 ⟨a2, k2, rfl, ⟨g, off, rfl, c2⟩, hb2⟩
  have HB2 := hideL (HG1.out.below.trans (hb2.mono HG1.out.below.size))
  clear hb2 HM hw1
  have HS := hideL (rS_lr w2)
  have HG3 := hideL ((Gr.alloc w2 (.cells #[.string ⟨#[97]⟩, .string ⟨#[]⟩, .float .f64 4636737291354636288] 46 (0, 0))).trans (Gr.alloc _ (boxO (rS (some ⟨w2.heap.size, 0, none⟩)))))
  unfold boxO at HS HG3
  obtain ⟨w3, hw3⟩ : ∃ X, ((w2.alloc (.cells #[.string ⟨#[97]⟩, .string ⟨#[]⟩, .float .f64 4636737291354636288] 46 (0, 0))).alloc (.cells #[.int .i64 2, .string ⟨#[115]⟩, .slice none 0 0, .slice (some ⟨w2.heap.size, 0, none⟩) 1 1, .string ⟨#[]⟩, .slice none 0 0, .string ⟨#[]⟩, .bool false] 34 (0, 0))) = X := ⟨_, rfl⟩
  have HS3 : Hid (Lr w3 (some ⟨w2.heap.size + 1, 0, none⟩) [rS (some ⟨w2.heap.size, 0, none⟩)]) := by rw [← hw3]; exact HS.out
  have HGR : Hid (Gr w2 w3) := by rw [← hw3]; exact HG3.out
  have HC : Hid (Calls Try.prog 13 #[.slice (some ⟨w2.heap.size + 1, 0, none⟩) 1 1] w3 fun e w' => ChB w3 (0, 1, 140) e w') := by
    obtain ⟨r1, r2⟩ := rS_says (some ⟨w2.heap.size, 0, none⟩)
    refine check_bad w3 _ 1 1 (0, 1, 140) (by decide) (fun W hW => ?_)
    have := faultOf_any W (some ⟨w2.heap.size + 1, 0, none⟩) 1 1 [rS (some ⟨w2.heap.size, 0, none⟩)] (some (0, 1)) none none none (HS3.out.below hW) rfl (by decide)
      (fun _ _ W' hW' => by
        have := dangling_any W' (some ⟨w2.heap.size + 1, 0, none⟩) 1 1 [rS (some ⟨w2.heap.size, 0, none⟩)] ((HS3.out.below hW).below hW') rfl (by decide)
        rw [show lookF (fun _ r => looF ([rS (some ⟨w2.heap.size, 0, none⟩)].map Rx.toRs) r) ([rS (some ⟨w2.heap.size, 0, none⟩)].map Rx.toRs) = some (0, 1) from r1] at this
        exact this)
      (fun _ _ h => by cases h) (fun _ _ h => by cases h) (fun _ _ h => by cases h)
    have e : fltF ([rS (some ⟨w2.heap.size, 0, none⟩)].map Rx.toRs) (some (0, 1)) none none none = (0, 1, 140) := by
      unfold fltF
      rw [if_neg (fun h => h r2), if_neg (by show ¬ 64 < 1; decide)]
      rfl
    rw [e] at this
    exact this
  unfold ChB fltV at HC
  dsimp only at HC
  clear HS HG3
  go_wp2_with fail
  refine HC.out.mono ?_
  rintro e w4 ⟨rfl, hb4⟩
  replace c2 := cell_of_below hb4 (HGR.out.cell c2)
  have HB3 := hideL (HB2.out.trans (HGR.out.below.mono HB2.out.size))
  have HB4 := hideL (HB3.out.trans (hb4.mono HB3.out.size))
  clear hb4 HC hw3
  have c2' := fun X => (alloc_cell w4 X (World.block_lt_of_cell? w4 _ c2)).trans c2
  go_wp2_with fail
  go_ret
  exact ⟨rfl, HB4.out.trans ((Gr.alloc _ _).below.mono HB4.out.size)⟩
end Go.Proofs.Ytmljljpldljpjab
