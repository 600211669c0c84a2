/-
  noKeys: whether no kid has a key.
-/
import Derived.Test.YtgododijnogegaaSba
import Derived.Test.YtgododijnogegaaBuf
namespace Go.Proofs.Ytgododijnogegaa
open Go.RowKit
set_option linter.unusedVariables false
set_option linter.unusedSimpArgs false
set_option maxRecDepth 100000
theorem isEmpty_no {b : ByteArray} (hk : ¬ b = ByteArray.empty) : b.toList.isEmpty = false := by
  rw [Bool.eq_false_iff]
  intro hh
  have := ba_ne hk
  rw [List.isEmpty_iff.1 hh] at this
  simp [ByteArray.toList_eq] at this
theorem Nums.below {w w' : World} {a : Option Addr} {cs : List Int} (h : Nums w a cs) (hb : Below w.heap.size w w') : Nums w' a cs := by
  rcases h with h | ⟨x, hx, hc⟩
  · exact .inl h
  · exact .inr ⟨x, hx, fun j hj => cell_of_below hb (hc j hj)⟩
/-- the closure: whether that kid has a key -/
theorem nokey_fn (w : World) (p bx : Nat) (a : Option Addr) (n cap : Nat) (l : List Nx) (q dp : Nat) (k : Nat) (o : Nx) (hw : Wk w p a n cap l q dp) (hb : w.cell? ⟨bx, 0, none⟩ = some (.pointer (some ⟨p, 0, none⟩))) (hk : l[k]? = some o) :
    Calls Try.prog 51 #[.int .i64 k, .pointer (some ⟨bx, 0, none⟩)] w fun e w' => e = .returned (.bool (!decide (o.key = ByteArray.empty))) ∧ w' = w := by
  obtain ⟨z0, z1, z2⟩ := hw.cells
  rcases hw.ns.row with hx | ⟨g, off, rfl, hc⟩
  · rw [hx] at hk; simp at hk
  have c1 := hc k _ hk 1 _ rfl
  have hlt : k < n := by have := (List.getElem?_eq_some_iff.1 hk).1; have := hw.len; omega
  have hlt' : (k : Int) < n := by omega
  have k0 : (0 : Int) ≤ k := by omega
  have hn := hw.small
  clear hw hk hc
  go_enter Try.func51, Try.ntmps51
  by_cases he : o.key = ByteArray.empty
  · rw [he] at c1
    go_wp2
    go_ret
    simp [he]
  · have h4' := isEmpty_no he
    go_wp2
    go_ret
    simp [he]
/-- no kid from the first on has a key, up to one -/
theorem keysOf_at {l : List Nx} {ks : List Int} {i k : Nat} {o : Nx} (hi : ks[i]? = some (k : Int)) (hk : l[k]? = some o) : (keysOf l ks)[i]? = some o.key := by
  simp [keysOf, hi, hk]
set_option maxHeartbeats 4000000 in
theorem ixf_any (w : World) (p bx : Nat) (a : Option Addr) (n cap : Nat) (l : List Nx) (q dp : Nat) (oa : Option Addr) (on_ ocap : Nat) (ks : List Int) (hw : Wk w p a n cap l q dp) (hb : w.cell? ⟨bx, 0, none⟩ = some (.pointer (some ⟨p, 0, none⟩))) (hN : Nums w oa ks) (hl : ks.length = on_) (hr : ∀ k ∈ ks, 0 ≤ k ∧ k < n) (ho : on_ ≤ 4096) :
    Calls Try.prog 54 #[.slice oa on_ ocap, .func (.func 51) #[] #[.pointer (some ⟨bx, 0, none⟩)]] w fun e w' => ∃ z : Int, e = .returned (.int .i64 z) ∧ decide (0 ≤ z) = !decide (∀ b ∈ keysOf l ks, b = ByteArray.empty) ∧ w' = w := by
  have HW := hideL hw
  have HB := hideL hb
  have HN := hideL hN
  have HL := hideL hl
  have HR := hideL hr
  clear hw hb hN hl hr
  go_enter Try.func54, Try.ntmps54
  go_wp2_with fail
  go_loopw [8] (fun t wr => ∃ (i : Nat), t = .int .i64 i ∧ i ≤ on_ ∧ wr = w ∧ Hid (∀ j b, j < i → (keysOf l ks)[j]? = some b → b = ByteArray.empty)) (fun t _ => on_ - (intOf t).toNat)
  case atStart => exact ⟨0, rfl, by omega, rfl, fun j c hj _ => by omega⟩
  case round =>
    obtain ⟨i, rfl, hi, rfl, HF⟩ := hrel
    have i0 : (0 : Int) ≤ i := by omega
    by_cases h2 : i < on_
    · have h2' : (i : Int) < on_ := by omega
      rcases hki : ks[i]? with _ | k
      · have := List.getElem?_eq_none_iff.1 hki; have := HL.out; omega
      obtain ⟨x, hx, hcx⟩ := HN.out.at_ hki
      subst hx
      have hk := HR.out k (List.mem_of_getElem? hki)
      obtain ⟨m, rfl⟩ : ∃ m : Nat, k = m := ⟨k.toNat, by omega⟩
      rcases hop : l[m]? with _ | o
      · have := List.getElem?_eq_none_iff.1 hop; have := HW.out.len; omega
      have HK := hideL (keysOf_at hki hop)
      have HO := hideL hop
      clear hki hop
      go_wp2_with fail
      refine (nokey_fn _ p bx a n cap l q dp m o HW.out HB.out HO.out).mono ?_
      rintro e w1 ⟨rfl, rfl⟩
      by_cases he : o.key = ByteArray.empty
      · have hd : (!decide (o.key = ByteArray.empty)) = false := by simp [he]
        rw [hd]
        go_wp2
        go_roundw
        case rel =>
          refine ⟨i + 1, by go_num, by omega, by trivial, fun j c hj hc => ?_⟩
          by_cases hji : j < i
          · exact HF.out j c hji hc
          · obtain rfl : j = i := by omega
            rw [HK.out] at hc; cases hc
            exact he
        case measure => simp [intOf]; omega
      · have hd : (!decide (o.key = ByteArray.empty)) = true := by simp [he]
        rw [hd]
        go_wp2
        go_ret
        refine ⟨_, rfl, ?_, rfl⟩
        have hno : ¬ ∀ b ∈ keysOf l ks, b = ByteArray.empty := fun h => he (h _ (List.mem_of_getElem? HK.out))
        rw [decide_eq_true i0, decide_eq_false hno]
        rfl
    · have h2' : ¬ (i : Int) < on_ := by omega
      go_wp2
      go_ret
      refine ⟨_, rfl, ?_, rfl⟩
      have hyes : ∀ b ∈ keysOf l ks, b = ByteArray.empty := fun b hb => by
        obtain ⟨j, hj⟩ := List.mem_iff_getElem?.1 hb
        have h3 := (List.getElem?_eq_some_iff.1 hj).1
        have h4 := HL.out
        simp only [keysOf, List.length_map] at h3
        exact HF.out j b (by omega) hj
      rw [decide_eq_true hyes]
      rfl
set_option maxHeartbeats 4000000 in
theorem cof_any (w : World) (p bx : Nat) (a : Option Addr) (n cap : Nat) (l : List Nx) (q dp : Nat) (oa : Option Addr) (on_ ocap : Nat) (ks : List Int) (hw : Wk w p a n cap l q dp) (hb : w.cell? ⟨bx, 0, none⟩ = some (.pointer (some ⟨p, 0, none⟩))) (hN : Nums w oa ks) (hl : ks.length = on_) (hr : ∀ k ∈ ks, 0 ≤ k ∧ k < n) (ho : on_ ≤ 4096) :
    Calls Try.prog 50 #[.slice oa on_ ocap, .func (.func 51) #[] #[.pointer (some ⟨bx, 0, none⟩)]] w fun e w' => e = .returned (.bool (!decide (∀ b ∈ keysOf l ks, b = ByteArray.empty))) ∧ w' = w := by
  have HC := hideL (ixf_any w p bx a n cap l q dp oa on_ ocap ks hw hb hN hl hr ho)
  clear hw hb hN hl hr
  go_enter Try.func50, Try.ntmps50
  go_wp2_with fail
  refine HC.out.mono ?_
  rintro e w1 ⟨z, rfl, hz, rfl⟩
  have HZ := hideL hz
  clear hz
  go_wp2_with fail
  go_ret
  rw [← HZ.out]
  exact ⟨rfl, rfl⟩
set_option maxHeartbeats 4000000 in
theorem noKeys_any (p : Nat) (a : Option Addr) (n cap : Nat) (l : List Nx) : C43 p a n cap l := by
  intro w q dp oa on_ ocap ks hw hN hl hr ho
  have hb1 : Below w.heap.size w (w.alloc (.cells #[.pointer (some ⟨p, 0, none⟩)] 88)) := (Below.refl _ _).alloc (Nat.le_refl _) _
  have HC := hideL (cof_any _ p w.heap.size a n cap l q dp oa on_ ocap ks (hw.below hb1) (by rw [cell_block (Go.heap_alloc_new w _)]; rfl) (hN.below hb1) hl hr ho)
  have HB := hideL hb1
  clear hw hN hl hr hb1
  go_enter Try.func43, Try.ntmps43
  go_wp2_with fail
  refine HC.out.mono ?_
  rintro e w1 ⟨rfl, rfl⟩
  go_wp2_with fail
  go_ret
  simp
  exact HB.out
end Go.Proofs.Ytgododijnogegaa
