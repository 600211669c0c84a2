/-
  The program's text of M and k.
-/
import Derived.Test.YthfmepnlbaifcaaDoorTo
namespace Go.Proofs.YthfmepnlbaifcaaDoor
open Go.RowKit
set_option linter.unusedVariables false
set_option linter.unusedSimpArgs false
theorem sext (l : List UInt8) (a b : Nat) : (ByteArray.mk l.toArray).extract a b = ⟨((l.take b).drop a).toArray⟩ := by
  apply ByteArray.ext
  rw [ByteArray.data_extract]
  simp [List.extract_toArray, List.extract_eq_take_drop, List.drop_take]
set_option maxRecDepth 100000 in
theorem dtext_low (m z : Nat) (d D Z : List UInt8) (K : Int) (P : Nat) (w : World) (hk : K < 0) (k1 : -22 ≤ K) (n1 : 1 ≤ d.length) (n2 : d.length ≤ 15) (hz : max 0 (1 - K - (d.length : Int)) = (z : Int)) (hZ : List.replicate z 48 = Z) (hD : Z ++ d = D) (hP : (D.length : Int) + K = (P : Int)) (hPl : P ≤ D.length)
    (hf : ∀ w, T10 w → Calls Tryd.prog 65 #[.int .u64 m, .int .i64 10] w fun e w' => e = .returned (.string ⟨d.toArray⟩) ∧ Below w.heap.size w w') (hT : T10 w) :
    Calls Tryd.prog 51 #[.int .u64 m, .int .i64 K] w fun e w' => e = .returned (.string ⟨(D.take P ++ 46 :: D.drop P).toArray⟩) ∧ Below w.heap.size w w' := by
  have HF := hide2 (hf w hT)
  have hz2 : z ≤ 100 := by omega
  have hr := rep_any z hz2
  have hDl : D.length ≤ 200 := by rw [← hD, ← hZ, List.length_append, List.length_replicate]; omega
  have hA : (ByteArray.mk Z.toArray) ++ ⟨d.toArray⟩ = ⟨D.toArray⟩ := by rw [sadd, hD]
  have HZ := hide2 (show Z.length + d.length ≤ 200 by rw [← List.length_append, hD]; exact hDl)
  rw [hZ] at hr
  have hZl : Z.length ≤ 200 := by have := HZ.out; omega
  clear hf hT hD hZ
  go_enter Tryd.func51, Tryd.ntmps51
  go_wp2_with (first
    | (go_at_call 65; refine HF.out.mono ?_; rintro e w1 ⟨rfl, hb1⟩)
    | (go_at_call 66; refine (hr _).mono ?_; rintro e w2 ⟨rfl, hb2⟩))
  go_quiet (fail)
  go_wp2
  go_ret
  refine ⟨?_, below_drewN (hb1.trans (hb2.mono hb1.size)) _⟩
  simp only [sext, sadd, Int.toNat_natCast, List.drop_zero, List.take_length]
  simp
set_option maxRecDepth 100000 in
theorem dtext_mid (m k : Nat) (d Z : List UInt8) (w : World) (k2 : k ≤ 22) (n1 : 1 ≤ d.length) (n2 : d.length ≤ 15) (hZ : List.replicate k 48 = Z) (h15 : (d.length : Int) + (k : Int) + 1 ≤ 15)
    (hf : ∀ w, T10 w → Calls Tryd.prog 65 #[.int .u64 m, .int .i64 10] w fun e w' => e = .returned (.string ⟨d.toArray⟩) ∧ Below w.heap.size w w') (hT : T10 w) :
    Calls Tryd.prog 51 #[.int .u64 m, .int .i64 k] w fun e w' => e = .returned (.string ⟨(d ++ (Z ++ [46, 48])).toArray⟩) ∧ Below w.heap.size w w' := by
  have HF := hide2 (hf w hT)
  have hr := rep_any k (by omega)
  rw [hZ] at hr
  have hZl : Z.length ≤ 200 := by rw [← hZ, List.length_replicate]; omega
  clear hf hT hZ
  go_enter Tryd.func51, Tryd.ntmps51
  go_wp2_with (first
    | (go_at_call 65; refine HF.out.mono ?_; rintro e w1 ⟨rfl, hb1⟩)
    | (go_at_call 66; refine (hr _).mono ?_; rintro e w2 ⟨rfl, hb2⟩))
  go_ret
  refine ⟨?_, (hb1.trans (hb2.mono hb1.size))⟩
  simp only [sadd]
  simp
set_option maxRecDepth 100000 in
theorem dtext_one (m k : Nat) (c : UInt8) (p : List UInt8) (w : World) (k2 : k ≤ 22) (h15 : ¬ (1 : Int) + (k : Int) + 1 ≤ 15) (hp : Lib.decDigits k = p)
    (hf : ∀ w, T10 w → Calls Tryd.prog 65 #[.int .u64 m, .int .i64 10] w fun e w' => e = .returned (.string ⟨[c].toArray⟩) ∧ Below w.heap.size w w') (hT : T10 w) :
    Calls Tryd.prog 51 #[.int .u64 m, .int .i64 k] w fun e w' => e = .returned (.string ⟨([c] ++ ([46, 48, 101] ++ p)).toArray⟩) ∧ Below w.heap.size w w' := by
  have HF := hide2 (hf w hT)
  have hr := Tryd.strconv_Itoa_small k (by omega)
  rw [hp] at hr
  have hpl : p.length ≤ 2 := by rw [← hp]; exact dd_len (by omega) (by decide)
  clear hf hT hp
  go_enter Tryd.func51, Tryd.ntmps51
  go_wp2_with (first
    | (go_at_call 65; refine HF.out.mono ?_; rintro e w1 ⟨rfl, hb1⟩))
  go_quiet (exact Calls.quiet_of_same (hr _))
  go_wp2
  go_ret
  refine ⟨?_, below_drewN hb1 _⟩
  simp only [sadd, sext]
  simp
set_option maxRecDepth 100000 in
theorem dtext_more (m k j : Nat) (d p : List UInt8) (w : World) (k2 : k ≤ 22) (n1 : 2 ≤ d.length) (n2 : d.length ≤ 15) (h15 : ¬ (d.length : Int) + (k : Int) + 1 ≤ 15) (hj : (k : Int) + (d.length : Int) - 1 = (j : Int)) (hp : Lib.decDigits j = p)
    (hf : ∀ w, T10 w → Calls Tryd.prog 65 #[.int .u64 m, .int .i64 10] w fun e w' => e = .returned (.string ⟨d.toArray⟩) ∧ Below w.heap.size w w') (hT : T10 w) :
    Calls Tryd.prog 51 #[.int .u64 m, .int .i64 k] w fun e w' => e = .returned (.string ⟨(d.take 1 ++ 46 :: (d.drop 1 ++ 101 :: p)).toArray⟩) ∧ Below w.heap.size w w' := by
  have HF := hide2 (hf w hT)
  have hr := Tryd.strconv_Itoa_small j (by omega)
  rw [hp] at hr
  have hpl : p.length ≤ 2 := by rw [← hp]; exact dd_len (by omega) (by decide)
  have hne : ((d.length : Int) == 1) = false := by rw [beq_eq_false_iff_ne]; omega
  clear hf hT hp
  go_enter Tryd.func51, Tryd.ntmps51
  go_wp2_with (first
    | (go_at_call 65; refine HF.out.mono ?_; rintro e w1 ⟨rfl, hb1⟩))
  go_quiet (exact Calls.quiet_of_same (hr _))
  go_wp2
  go_ret
  refine ⟨?_, below_drewN hb1 _⟩
  simp only [sadd, sext, List.take_length]
  simp
theorem dtext_any (m : Nat) (k : Int) (w : World) (hm : 1 ≤ m) (hm2 : m < 1000000000000000) (k1 : -22 ≤ k) (k2 : k ≤ 22) (hT : T10 w) :
    Calls Tryd.prog 51 #[.int .u64 m, .int .i64 k] w fun e w' => e = .returned (.string ⟨(decT m k).toArray⟩) ∧ Below w.heap.size w w' := by
  have hf := fun w h => fmtu m hm hm2 w h
  have n1 := List.length_pos_iff.2 (dd_ne m)
  have n2 : (Lib.decDigits m).length ≤ 15 := dd_len (j := 15) (by omega) (by decide)
  unfold decT
  generalize Lib.decDigits m = d at *
  by_cases hk : k < 0
  · rw [if_pos hk]
    have h := dtext_low m (1 - k - (d.length : Int)).toNat d _ _ k ((1 - k - (d.length : Int)).toNat + d.length - k.natAbs) w hk k1 n1 n2 (by omega) rfl rfl (by rw [List.length_append, List.length_replicate]; omega) (by rw [List.length_append, List.length_replicate]; omega) hf hT
    exact h
  · rw [if_neg hk]
    obtain ⟨j, rfl⟩ : ∃ j : Nat, k = j := ⟨k.toNat, by omega⟩
    rw [Int.natAbs_natCast]
    by_cases h15 : (d.length : Int) + (j : Int) + 1 ≤ 15
    · rw [if_pos h15]
      exact dtext_mid m j d _ w (by omega) n1 n2 rfl h15 hf hT
    · rw [if_neg h15]
      by_cases h1 : d.length = 1
      · rw [if_pos h1]
        obtain ⟨c, rfl⟩ := List.length_eq_one_iff.1 h1
        exact dtext_one m j c _ w (by omega) h15 rfl hf hT
      · rw [if_neg h1]
        exact dtext_more m j (j + d.length - 1) d _ w (by omega) (by omega) n2 h15 (by omega) rfl hf hT
end Go.Proofs.YthfmepnlbaifcaaDoor
