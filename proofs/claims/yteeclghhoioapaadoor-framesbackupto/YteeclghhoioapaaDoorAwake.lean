/-
  The contracts of the statements' own helpers round and awake.
-/
import Derived.Test.YteeclghhoioapaaDoorPlain
import Derived.Lib.SlBytesConst
namespace Go.Proofs.YteeclghhoioapaaDoor
set_option maxRecDepth 4000
open Go.RowKit
set_option linter.unusedVariables false

theorem ret_i64 {a b : Int} (h : a = b) : Ending.returned (.int .i64 a) = .returned (.int .i64 b) := by rw [h]
set_option maxHeartbeats 400000 in
theorem round_any (x : Int) (n : Nat) (w : World) (h0 : 0 < n) (h1 : n ≤ 140737488355329) (hx0 : -9223372036854775808 ≤ x) (hx1 : x ≤ 9223372036854775807) :
    Calls Tryd.prog 23 #[.int .i64 x, .int .i64 n] w fun e w' => ∃ k : Nat, k < n ∧ e = .returned (.int .i64 k) ∧ w' = w := by
  have l0 : -(n : Int) < x.tmod n := by
    have h := Int.tmod_lt_of_pos (-x) (show 0 < (n : Int) by omega)
    rw [Int.neg_tmod] at h
    omega
  have l1 : x.tmod n < n := Int.tmod_lt_of_pos x (by omega)
  go_enter Tryd.func23, Tryd.ntmps23
  go_wp2
  · go_ret
    exact ⟨(x.tmod n + n).toNat, by omega, ret_i64 (by omega), rfl⟩
  · go_ret
    exact ⟨(x.tmod n).toNat, by omega, ret_i64 (by omega), rfl⟩

theorem own_has {w : World} {base g n cap : Nat} {zs : List Int} (h : w.ownsRow base 5 1 (.slice (some ⟨g, 0, none⟩) n cap) n (vals zs)) : Has w (some ⟨g, 0, none⟩) zs :=
  .inr ⟨_, rfl, fun j hj => h.cells rfl j _ (vals_get zs j hj)⟩

theorem awake_a {w1 w2 : World} {g2 cap2 : Nat} {F : List Int} (hown2 : w2.ownsRow w1.heap.size 5 1 (.slice (some ⟨g2, 0, none⟩) (0 + 9) cap2) (0 + 9) (vals [] ++ vals F)) (hg : (w1.alloc (.cells #[] 5)).grownBy w2 (Value.slice (some ⟨w1.heap.size, 0, none⟩) 0 0).ownBlock) :
    Hid (w2.ownsRow w1.heap.size 5 1 (.slice (some ⟨g2, 0, none⟩) 9 cap2) 9 (vals F)) ∧ Hid (Below w1.heap.size w1 w2) :=
  ⟨hown2, ((Below.refl _ w1).alloc (Nat.le_refl _) _).grown hg (by simp) (fun k h => by simp [Value.ownBlock] at h; omega)⟩
theorem awake_b {w1 w2 w3 : World} {g2 cap2 g3 cap3 : Nat} {F : List Int} {o : Obj} (HO2 : Hid (w2.ownsRow w1.heap.size 5 1 (.slice (some ⟨g2, 0, none⟩) 9 cap2) 9 (vals F))) (B2 : Hid (Below w1.heap.size w1 w2))
    (hown3 : w3.ownsRow w1.heap.size 5 1 (.slice (some ⟨g3, 0, none⟩) (9 + 1) cap3) (9 + 1) (vals F ++ vals [7])) (hg : (w2.alloc o).grownBy w3 (Value.slice (some ⟨g2, 0, none⟩) 9 cap2).ownBlock) :
    Hid (w3.ownsRow w1.heap.size 5 1 (.slice (some ⟨g3, 0, none⟩) 10 cap3) 10 (vals (F ++ [7]))) ∧ Hid (Below w1.heap.size w1 w3) ∧ 10 ≤ cap3 ∧ cap3 ≤ maxLen := by
  rw [← vals_append] at hown3
  have := own_cap hown3
  exact ⟨hown3, (B2.out.alloc B2.out.size _).grown hg (Nat.le_trans B2.out.size (by simp)) (fun k h => (HO2.out.lt k h).1), this.1, this.2⟩

theorem awake_c {e : Ending} {w3 w4 : World} {F : List Int} (HF : Hid (frame [97] = F)) (hN : Nexts w3 (F ++ [7]) e w4) :
    ∃ g4, e = .returned (.tuple #[.slice (some ⟨g4, 0, none⟩) 1 1, .int .i64 9, .int .i64 0]) ∧ Hid (w4.heap[g4]? = some (.cells (vals [97]).toArray 5 (0, 0))) ∧ Below w3.heap.size w3 w4 := by
  have h := isRec_frame [97] [7] (by decide)
  rw [HF.out] at h
  obtain ⟨hb, hN⟩ := hN
  rcases hN with ⟨no, _⟩ | ⟨N, g, hr, rfl, _, hh⟩
  · exact absurd h.1 (no _)
  · have hN := hr.same h.1
    subst hN
    rw [h.2] at hh
    exact ⟨g, rfl, hh, hb⟩
theorem octets_nine : Octets [49, 50, 51, 52, 53, 54, 55, 56, 57] := fun
  | 0 | 1 | 2 | 3 | 4 | 5 | 6 | 7 | 8 => by decide
  | i + 9 => by simp
theorem crc_zero : moreF 0 [] = 0 := moreF_nil 0 (by decide) (by decide)
theorem crc_nine : moreF 0 [49, 50, 51, 52, 53, 54, 55, 56, 57] = 3808858755 := by decide +kernel

end Go.Proofs.YteeclghhoioapaaDoor
