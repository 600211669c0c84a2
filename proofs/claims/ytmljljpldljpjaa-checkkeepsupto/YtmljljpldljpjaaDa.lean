/-
  dangling.
-/
import Derived.Test.YtmljljpldljpjaaNa
namespace Go.Proofs.Ytmljljpldljpjaa
open Go.RowKit
set_option linter.unusedVariables false
set_option linter.unusedSimpArgs false
set_option maxRecDepth 100000
/-- the first of a list that is told, and what of it -/
def lookF (p : Nat → Rs → Option Nat) (C : List Rs) : Option (Nat × Nat) := (List.range C.length).findSome? (fun i => (C[i]?).bind fun r => (p i r).map fun k => (i, k))
theorem findSome_range {α : Type} {f : Nat → Option α} {n i : Nat} {x : α} (h1 : ∀ j, j < i → f j = none) (h2 : f i = some x) (hi : i < n) : (List.range n).findSome? f = some x := by
  rw [List.findSome?_eq_some_iff]
  refine ⟨List.range i, i, (List.range n).drop (i + 1), ?_, h2, fun j hj => h1 j (by simpa using hj)⟩
  apply List.ext_getElem?
  intro j
  by_cases hj : j < i
  · rw [List.getElem?_append_left (by simpa using hj)]
    simp [List.getElem?_range, hj, Nat.lt_trans hj hi]
  · rw [List.getElem?_append_right (by simp; omega)]
    simp only [List.length_range]
    rcases hji : j - i with _ | k
    · have : j = i := by omega
      subst this; simp [hi]
    · have : j = i + 1 + k := by omega
      subst this
      simp [List.getElem?_drop]
theorem lookF_stop {p : Nat → Rs → Option Nat} {C : List Rs} {i k : Nat} {r : Rs} (h1 : ∀ (j : Nat) (x : Rs), j < i → C[j]? = some x → p j x = none) (h2 : C[i]? = some r) (h3 : p i r = some k) : lookF p C = some (i, k) := by
  have hi := (List.getElem?_eq_some_iff.1 h2).1
  unfold lookF
  refine findSome_range (fun j hj => ?_) ?_ hi
  · have : j < C.length := by omega
    rw [List.getElem?_eq_getElem this]
    simp [h1 j _ hj (List.getElem?_eq_getElem this)]
  · rw [h2]; simp [h3]
theorem lookF_none {p : Nat → Rs → Option Nat} {C : List Rs} (h1 : ∀ (j : Nat) (x : Rs), C[j]? = some x → p j x = none) : lookF p C = none := by
  unfold lookF
  rw [List.findSome?_eq_none_iff]
  intro j hj
  have : j < C.length := by simpa using hj
  rw [List.getElem?_eq_getElem this]
  simp [h1 j _ (List.getElem?_eq_getElem this)]
/-- a fault's value -/
def faV (o : Option (Nat × Nat)) (x : Int) : Value := match o with | some (i, k) => .agg #[.int .i64 i, .int .i64 k, .int .i64 x] | none => .agg #[.int .i64 0, .int .i64 0, .int .i64 0]
/-- what a look leaves -/
def FaE (w : World) (v : Value) (e : Ending) (w' : World) : Prop := e = .returned v ∧ Below w.heap.size w w'
def f0 : Obj := .cells #[.int .i64 0, .int .i64 0, .int .i64 0] 33 (0, 0)
set_option maxHeartbeats 16000000 in
theorem dangling_any (w : World) (a : Option Addr) (n c : Nat) (os : List Rx) (hL : Lr w a os) (hn : os.length = n) (hs : n ≤ 4194304) :
    Calls Try.prog 48 #[.slice a n c] w fun e w' => FaE w (faV (lookF (fun _ r => looF (os.map Rx.toRs) r) (os.map Rx.toRs)) 140) e w' := by
  have HL := hideL hL
  have HN := hideL hn
  clear hL hn
  obtain ⟨A, hA⟩ : ∃ A, lookF (fun _ r => looF (os.map Rx.toRs) r) (os.map Rx.toRs) = A := ⟨_, rfl⟩
  have HST : Hid (∀ (i k : Nat) (r : Rs), (∀ (j : Nat) (x : Rs), j < i → (os.map Rx.toRs)[j]? = some x → looF (os.map Rx.toRs) x = none) → (os.map Rx.toRs)[i]? = some r → looF (os.map Rx.toRs) r = some k → A = some (i, k)) := fun i k r h1 h2 h3 => by rw [← hA]; exact lookF_stop h1 h2 h3
  have HAL : Hid ((∀ (j : Nat) (x : Rs), (os.map Rx.toRs)[j]? = some x → looF (os.map Rx.toRs) x = none) → A = none) := fun h => by rw [← hA]; exact lookF_none h
  rw [hA]
  clear hA
  obtain ⟨w1, hw1⟩ : ∃ X, w.alloc f0 = X := ⟨_, rfl⟩
  have HB1 : Hid (Below w.heap.size w w1) := by rw [← hw1]; exact (Gr.alloc _ _).below
  have HX1 : Hid (w1.heap[w.heap.size]? = some f0) := by rw [← hw1]; exact heap_alloc_new w _
  unfold f0 at hw1
  obtain ⟨B, hB⟩ : ∃ B, w.heap.size = B := ⟨_, rfl⟩
  rw [hB] at HX1
  go_enter Try.func48, Try.ntmps48
  go_wp2_with fail
  refine (firsts_any w1 a n c os (HL.out.below HB1.out) HN.out hs).mono ?_
  rintro e w2 ⟨rfl, hm2, hb2⟩
  have HM2 := hideL hm2
  have HX2 := hideL (hb2.cells HX1.out)
  have HB2 := hideL (HB1.out.trans (hb2.mono HB1.out.size))
  obtain ⟨M, hM⟩ : ∃ M, w1.heap.size = M := ⟨_, rfl⟩
  rw [hM] at HM2 ⊢
  clear hm2 hb2 hM hw1 HX1
  go_wp2_with fail
  go_loopw [12] (fun t wr => ∃ (i : Nat), t = .int .i64 i ∧ i ≤ n ∧ Gr w2 wr ∧ Hid (∀ (j : Nat) (x : Rs), j < i → (os.map Rx.toRs)[j]? = some x → looF (os.map Rx.toRs) x = none)) (fun t _ => n - (intOf t).toNat)
  case atStart => exact ⟨0, rfl, by omega, Gr.refl _, fun j y hj => by omega⟩
  case round =>
    obtain ⟨i, rfl, hi, hgr, HF⟩ := hrel
    have HG := hideL hgr
    clear hgr
    have HB := hideL (HB2.out.trans (HG.out.below.mono HB2.out.size))
    have i0 : (0 : Int) ≤ i := by omega
    by_cases h3 : i < n
    · have h3' : (i : Int) < n := by omega
      rcases hki : os[i]? with _ | o
      · have := List.getElem?_eq_none_iff.1 hki; have := HN.out; omega
      have HKI : Hid ((os.map Rx.toRs)[i]? = some o.toRs) := by unfold Hid; simp [hki]
      have HRO := hideL (HL.out.each o (List.mem_of_getElem? hki))
      obtain ⟨g, off, rfl, d0, d1, d2, d3, d4, d5, d6, d7⟩ := (HL.out.row.below HB.out).cells hki
      clear hki
      obtain ⟨w3, hw3⟩ : ∃ X, wr.alloc (boxO o) = X := ⟨_, rfl⟩
      have HG3 : Hid (Gr wr w3) := by rw [← hw3]; exact Gr.alloc _ _
      have HX3 : Hid (w3.heap[wr.heap.size]? = some (boxO o)) := by rw [← hw3]; exact heap_alloc_new wr _
      have HB3 := hideL (HB.out.trans (HG3.out.below.mono HB.out.size))
      unfold boxO at hw3
      obtain ⟨e0, e1, e2, e3, e4, e5, e6, e7⟩ := box8 HX3.out
      have HLO := hideL (loose_any w3 o (os.map Rx.toRs) M n (HRO.out.below HB3.out) (HM2.out.below (HG.out.trans HG3.out).below))
      unfold LoE at HLO
      rcases hl : looF (os.map Rx.toRs) o.toRs with _ | k
      · rw [hl] at HLO
        have HLN := hideL hl
        clear hl
        unfold loA at HLO
        dsimp only [Option.isSome] at HLO
        go_wp2_with fail
        refine HLO.out.mono ?_
        rintro e w4 ⟨rfl, hg4⟩
        have HG4 := hideL hg4
        clear hg4
        go_wp2_with fail
        go_roundw
        case rel => exact ⟨i + 1, by go_num, by omega, (HG.out.trans HG3.out).trans HG4.out, fun j y hj hy => by
          by_cases hji : j < i
          · exact HF.out j y hji hy
          · obtain rfl : j = i := by omega
            rw [HKI.out] at hy; cases hy; exact HLN.out⟩
        case measure => simp [intOf]; omega
      · rw [hl] at HLO
        have HR : Hid (A = some (i, k)) := HST.out i k o.toRs HF.out HKI.out hl
        clear hl
        unfold loA at HLO
        dsimp only [Option.isSome] at HLO
        go_wp2_with fail
        refine HLO.out.mono ?_
        rintro e w4 ⟨rfl, hg4⟩
        have HB4 := hideL (HB3.out.trans (hg4.below.mono HB3.out.size))
        have HX4 := hideL (((HG.out.trans HG3.out).trans hg4).below.cells HX2.out)
        obtain ⟨⟨f0, f1, f2⟩, ⟨g0, g1, g2⟩, ⟨k0, k1, k2⟩, hbut, -⟩ := set3 HX4.out (.int .i64 i) (.int .i64 k) (.int .i64 140)
        have HBT := hideL hbut
        clear hg4 hbut e0 e1 e2 e3 e4 e5 e6 e7 d0 d1 d2 d3 d4 d5 d6 d7 HLO
        go_wp2
        refine bodyPost_ret (v := .agg #[.int .i64 i, .int .i64 k, .int .i64 140]) (by simp [results, Try.results48, go_sem, k0, k1, k2]) rfl ⟨by rw [HR.out]; rfl, ?_⟩
        exact HB4.out.trans (HBT.out.below HB4.out.size (by omega))
    · have h3' : ¬ (i : Int) < n := by omega
      have HR : Hid (A = none) := HAL.out (fun j y hy => HF.out j y (by have := (List.getElem?_eq_some_iff.1 hy).1; have := HN.out; simp only [List.length_map] at *; omega) hy)
      have HX4 := hideL (HG.out.below.cells HX2.out)
      obtain ⟨⟨f0, f1, f2⟩, ⟨g0, g1, g2⟩, ⟨k0, k1, k2⟩, hbut, -⟩ := set3 HX4.out (.int .i64 0) (.int .i64 0) (.int .i64 0)
      have HBT := hideL hbut
      clear hbut
      go_wp2
      refine bodyPost_ret (v := .agg #[.int .i64 0, .int .i64 0, .int .i64 0]) (by simp [results, Try.results48, go_sem, k0, k1, k2]) rfl ⟨by rw [HR.out]; rfl, ?_⟩
      exact HB.out.trans (HBT.out.below HB.out.size (by omega))
end Go.Proofs.Ytmljljpldljpjaa
