/-
  The contracts of the document's own bits, Sum and Four.
-/
import Derived.Test.YteeclghhoioapaaDoorPlain
import Derived.Test.YteeclghhoioapaaDoorMath
namespace Go.Proofs.YteeclghhoioapaaDoor
set_option maxRecDepth 4000
open Go.RowKit
set_option linter.unusedVariables false

theorem Tryd.info4 : (Tryd.prog.info? 4).map (fun i => (i.zero, i.size, i.bytes)) = some (some (.bool false), 1, 1) := by kernel_rfl
def bvals (bs : List Bool) : List Value := bs.map Value.bool

theorem bvals_append (a b : List Bool) : bvals (a ++ b) = bvals a ++ bvals b := by simp [bvals]
theorem bitsN_get (k v j : Nat) (h : j < k) : (bitsN k v)[j]? = some (v / 2 ^ j % 2 == 1) := by
  induction k generalizing v j with
  | zero => omega
  | succ k ih =>
    cases j with
    | zero => simp [bitsN]
    | succ j => simp only [bitsN, List.getElem?_cons_succ]; rw [ih _ _ (by omega), Nat.pow_succ, Nat.mul_comm, Nat.div_div_eq_div_mul]
theorem bitsN_take (z : Int) (m : Nat) (h0 : 0 ≤ z) (h1 : z ≤ 255) (hm : m < 8) : (bitsN 8 z.toNat).take (m + 1) = (bitsN 8 z.toNat).take m ++ [bits .and .u8 (z / 2 ^ m) 1 == 1] := by
  have hl : m < (bitsN 8 z.toNat).length := by rw [bitsN_length]; exact hm
  rw [List.take_succ_eq_append_getElem hl]
  have hg := bitsN_get 8 z.toNat m hm
  rw [List.getElem?_eq_getElem hl] at hg
  rw [Option.some.inj hg]
  have hd : z / 2 ^ m = ((z.toNat / 2 ^ m : Nat) : Int) := by
    obtain ⟨n, rfl⟩ := Int.eq_ofNat_of_zero_le h0
    simp
  have hle : z.toNat / 2 ^ m ≤ 255 := Nat.le_trans (Nat.div_le_self _ _) (by omega)
  rw [hd]
  generalize z.toNat / 2 ^ m = q at hle
  rw [u8_and _ 1 (by omega) (by omega) (by omega) (by omega), Int.toNat_natCast, show (1 : Int).toNat = 1 from rfl, nat_mask1]
  rcases Nat.mod_two_eq_zero_or_one q with h | h <;> rw [h] <;> rfl
theorem bitsOf_succ (zs : List Int) (k : Nat) (hk : k < zs.length) : bitsOf (zs.take (k + 1)) = bitsOf (zs.take k) ++ bitsN 8 (zs.getD k 0).toNat := by
  rw [List.take_succ_eq_append_getElem hk]
  simp only [bitsOf, List.flatMap_append, List.flatMap_cons, List.flatMap_nil, List.append_nil]
  rw [show zs.getD k 0 = zs[k] by simp [hk]]

set_option maxHeartbeats 1000000 in
theorem bits_some (b off n cap : Nat) (zs : List Int) (w : World) (hn : zs.length = n) (hB : ∀ j, j < zs.length → w.cell? ⟨b, off + j, none⟩ = some (.int .u8 (zs.getD j 0))) (hz : Octets zs) (hl : n ≤ 17592186044416) :
    Calls Tryd.prog 57 #[.slice (some ⟨b, off, none⟩) n cap] w fun e w' => ∃ v, e = .returned v ∧ w'.ownsRow w.heap.size 4 1 v (bitsOf zs).length (bvals (bitsOf zs)) ∧ Below w.heap.size w w' := by
  obtain ⟨i0, hi, hz0, hz1, hz2⟩ := info_parts Tryd.info4
  have HN : Hid (zs.length = n) := hn
  have hbw : 0 < n → b < w.heap.size := fun h => by have := World.block_lt_of_cell? w _ (hB 0 (by omega)); simpa using this
  clear hn
  go_enter Tryd.func57, Tryd.ntmps57
  go_wp2
  go_loopw [3, 4, 5] (fun v i j wr => ∃ k : Nat, k ≤ n ∧ i = .int .i64 k ∧ wr.ownsRow w.heap.size 4 1 v (bitsOf (zs.take k)).length (bvals (bitsOf (zs.take k))) ∧ Below w.heap.size w wr) (fun _ i _ _ => n - (intOf i).toNat)
  case atStart => exact ⟨0, Nat.zero_le _, rfl, World.ownsRow_nil _ _ _ _, Below.refl _ _⟩
  case round =>
    obtain ⟨k, hk, rfl, hown, hbel⟩ := hrel
    by_cases hlt : k < n
    · obtain ⟨wo, rfl⟩ : ∃ wo : World, wo = wr := ⟨_, rfl⟩
      obtain ⟨z, hzk⟩ : ∃ z, zs.getD k 0 = z := ⟨_, rfl⟩
      have oz := hz k
      rw [hzk] at oz
      obtain ⟨z0, z1⟩ := oz
      have hcell : w.cell? ⟨b, off + k, none⟩ = some (.int .u8 z) := by rw [← hzk]; exact hB k (by have := HN.out; omega)
      have HK : Hid (zs.getD k 0 = z) := hzk
      have hbl := hbw (by omega)
      have len8 := bitsOf_length (zs.take k)
      have LK : Hid ((bitsOf (zs.take k)).length = 8 * k) := by
        show (bitsOf (zs.take k)).length = 8 * k
        rw [len8, List.length_take]; have := HN.out; omega
      obtain ⟨X, hX⟩ : ∃ X, bitsOf (zs.take k) = X := ⟨_, rfl⟩
      rw [hX] at hown LK
      have HX : Hid (bitsOf (zs.take k) = X) := hX
      rw [LK.out] at hown
      clear hX hzk len8 hB hz
      go_wp2
      go_loopw [3, 5] (fun v j wr => ∃ m : Nat, m ≤ 8 ∧ j = .int .i64 m ∧ wr.ownsRow w.heap.size 4 1 v (8 * k + m) (bvals (X ++ (bitsN 8 z.toNat).take m)) ∧ Below w.heap.size w wr) (fun _ j _ => 8 - (intOf j).toNat)
      case atStart => exact ⟨0, by omega, rfl, by simpa using hown, hbel⟩
      case round =>
        obtain ⟨m, hm, rfl, hown2, hbel2⟩ := hrel
        have hc2 : wr.cell? ⟨b, off + k, none⟩ = some (.int .u8 z) := (hbel2.cell hbl).trans hcell
        clear hown hbel hcell
        by_cases hlt2 : m < 8
        · have HS : Hid ((bitsN 8 z.toNat).take (m + 1) = (bitsN 8 z.toNat).take m ++ [bits .and .u8 (z / 2 ^ m) 1 == 1]) := bitsN_take z m z0 z1 hlt2
          obtain ⟨b1, hb1⟩ : ∃ b1, (bits .and .u8 (z / 2 ^ m) 1 == 1) = b1 := ⟨_, rfl⟩
          rw [hb1] at HS
          go_wp2_with (at_builtin; refine wpList_append_own _ rfl (.tmp 16) (.tmp 26) 108 rfl w.heap.size 4 i0 (.bool false) 1 1 Tryd.underlying108 hi hz0 hz1 hz2 rfl (by decide) _ _ _ rfl (hown2.alloc _) ⟨wr.heap.size, 0, none⟩ 1 1 [.bool b1] rfl rfl (World.news_of_block (heap_alloc_new wr _)) (by intro u hu; simp at hu; subst hu; rfl) (by unfold maxLen; omega) (by omega) (by have := hbel2.size; simp; omega) ?_; intro v' w1 hown' hgrow _)
          go_roundw
          case rel => exact ⟨m + 1, by omega, by go_num, by rw [HS.out, ← List.append_assoc, bvals_append]; exact hown', (hbel2.alloc hbel2.size _).grown hgrow (by have := hbel2.size; simp; omega) (fun k h => (hown2.lt k h).1)⟩
          case measure => simp [intOf]; omega
        · obtain rfl : m = 8 := by omega
          have HS : Hid ((bitsOf (zs.take (k + 1))).length = 8 * k + 8 ∧ bitsOf (zs.take (k + 1)) = X ++ (bitsN 8 z.toNat).take 8) := by
            have e : bitsOf (zs.take (k + 1)) = X ++ (bitsN 8 z.toNat).take 8 := by
              rw [← HX.out, ← HK.out, List.take_of_length_le (l := bitsN 8 _) (by rw [bitsN_length]; omega)]
              exact bitsOf_succ zs k (by have := HN.out; omega)
            refine ⟨?_, e⟩
            rw [e, List.length_append, LK.out, List.length_take, bitsN_length]; omega
          go_wp2
          go_roundw
          case rel => exact ⟨k + 1, by omega, by go_num, by rw [HS.out.1, HS.out.2]; exact hown2, hbel2⟩
          case measure => simp [intOf]; omega
    · have HE : Hid (zs.take k = zs) := List.take_of_length_le (by have := HN.out; omega)
      rw [HE.out] at hown
      go_wp2
      go_ret
      exact ⟨_, rfl, hown, hbel⟩
end Go.Proofs.YteeclghhoioapaaDoor
