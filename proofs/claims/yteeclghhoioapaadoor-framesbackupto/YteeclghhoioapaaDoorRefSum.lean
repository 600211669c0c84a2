/-
  The contracts of the document's own Sum and Four.
-/
import Derived.Test.YteeclghhoioapaaDoorBits
namespace Go.Proofs.YteeclghhoioapaaDoor
set_option maxRecDepth 4000
open Go.RowKit
set_option linter.unusedVariables false

set_option maxHeartbeats 400000 in
theorem bits_empty (a : Option Addr) (cap : Nat) (w : World) :
    Calls Tryd.prog 57 #[.slice a 0 cap] w fun e w' => ∃ v, e = .returned v ∧ w'.ownsRow w.heap.size 4 1 v (bitsOf []).length (bvals (bitsOf [])) ∧ Below w.heap.size w w' := by
  go_enter Tryd.func57, Tryd.ntmps57
  go_wp2
  refine wp_loop_rounds 1 ?_
  rw [rounds_succ]
  go_wp2
  go_ret
  exact ⟨_, rfl, World.ownsRow_nil _ _ _ _, Below.refl _ _⟩

theorem bits_has (a : Option Addr) (n cap : Nat) (zs : List Int) (w : World) (hn : zs.length = n) (hB : Has w a zs) (hz : Octets zs) (hl : n ≤ 17592186044416) :
    Calls Tryd.prog 57 #[.slice a n cap] w fun e w' => ∃ v, e = .returned v ∧ w'.ownsRow w.heap.size 4 1 v (bitsOf zs).length (bvals (bitsOf zs)) ∧ Below w.heap.size w w' := by
  subst hn
  rcases hB with ⟨rfl, rfl⟩ | ⟨x, rfl, hB⟩
  · exact bits_empty none cap w
  · by_cases h0 : zs.length = 0
    · obtain rfl : zs = [] := List.length_eq_zero_iff.1 h0
      exact bits_empty (some x) cap w
    · obtain ⟨b, off, rfl, hc⟩ := ints_at (k := .u8) hB (by omega)
      exact bits_some b off _ cap zs w rfl hc hz hl

theorem flip_lit (x : Int) (h0 : 0 ≤ x) (h1 : x < 4294967296) : bits .xor .u32 x 4294967295 = flip x := by
  unfold flip
  rw [u32_xor _ _ h0 h1 (by omega) (by omega), u32_xor _ _ (by decide) (by decide) h0 h1, Nat.xor_comm]; rfl
theorem bcell_at {w : World} {base g cp : Nat} {L : List Bool} (h : w.ownsRow base 4 1 (.slice (some ⟨g, 0, none⟩) L.length cp) L.length (bvals L)) (k : Nat) (hk : k < L.length) : w.cell? ⟨g, k, none⟩ = some (.bool (L.getD k false)) := by
  rw [h.cellAt k (by omega)]; simp [bvals, hk]
theorem refFold_snoc (L : List Bool) (k : Nat) (x : Int) (h : k < L.length) : (L.take (k + 1)).foldl refStep x = refStep ((L.take k).foldl refStep x) (L.getD k false) := by
  rw [List.take_succ_eq_append_getElem h, List.foldl_append]; simp [h]

theorem refStep_yes (x : Int) (b : Bool) (h : (!(x % 2 == 1) == b) = true) : refStep x b = bits .xor .u32 (x / 2) 2197175160 := by
  unfold refStep; rw [if_pos]; simpa using h
theorem refStep_no (x : Int) (b : Bool) (h : (!(x % 2 == 1) == b) = false) : refStep x b = x / 2 := by
  unfold refStep; rw [if_neg]; simpa using h

set_option maxHeartbeats 1000000 in
theorem rsum_any (c : Int) (a : Option Addr) (n cap : Nat) (zs : List Int) (w : World) (hn : zs.length = n) (hB : Has w a zs) (hz : Octets zs) (hc0 : 0 ≤ c) (hc1 : c < 4294967296) (hl : n ≤ 17592186044416) :
    Calls Tryd.prog 48 #[.int .u32 c, .slice a n cap] w fun e w' => e = .returned (.int .u32 (moreF c zs)) ∧ Below w.heap.size w w' := by
  have HE := ref_eq c zs hz hc0 hc1
  have fl := flip_lit c hc0 hc1
  have fb := flip_bd c hc0 hc1
  obtain ⟨y, hy⟩ : ∃ y, moreF c zs = y := ⟨_, rfl⟩
  rw [hy] at HE ⊢
  obtain ⟨L, hL⟩ : ∃ L, bitsOf zs = L := ⟨_, rfl⟩
  have hlen := bitsOf_length zs
  rw [hL] at HE hlen
  have hlen' : L.length ≤ 140737488355328 := by omega
  have HE' : Hid (flip (L.foldl refStep (flip c)) = y) := HE
  have HL : Hid (bitsOf zs = L) := hL
  have FL : Hid (bits .xor .u32 c 4294967295 = flip c) := fl
  clear HE hL hy hlen fl
  go_enter Tryd.func48, Tryd.ntmps48
  go_wp2_with fail
  refine (bits_has a n cap zs _ hn hB hz hl).mono ?_
  rintro e w1 ⟨v, rfl, hown, hbel⟩
  rw [HL.out] at hown
  clear hn hB hz
  rcases Nat.eq_zero_or_pos L.length with h0 | hpos
  · obtain rfl : L = [] := List.length_eq_zero_iff.1 h0
    have hv : v = .slice none 0 0 ∨ ∃ x cp, v = .slice x 0 cp := by
      rcases hown.2 with ⟨h, _⟩ | ⟨g', cp, _, h, _⟩
      · exact .inl h
      · exact .inr ⟨_, cp, h⟩
    have hv' : ∃ x cp, v = .slice x 0 cp := by
      rcases hv with h | h
      · exact ⟨none, 0, h⟩
      · exact h
    obtain ⟨xa, cp, hvv⟩ := hv'
    have HF : Hid (bits .xor .u32 (bits .xor .u32 c 4294967295) 4294967295 = y) := by
      show bits .xor .u32 (bits .xor .u32 c 4294967295) 4294967295 = y
      rw [FL.out, flip_lit _ fb.1 fb.2, ← HE'.out]; rfl
    subst hvv
    clear hown hv
    go_wp2
    refine wp_loop_rounds 1 ?_
    rw [rounds_succ]
    go_wp2
    go_ret
    exact ⟨ret_u32 HF.out, hbel⟩
  · obtain ⟨g, cp, hv, _, _⟩ := hown.form hpos
    subst hv
    have hcell := bcell_at hown
    clear hown
    go_wp2
    go_loop [0, 6, 7] (fun t i l => ∃ (k : Nat) (x : Int), k ≤ L.length ∧ i = .int .i64 k ∧ t = .int .u32 x ∧ 0 ≤ x ∧ x < 4294967296 ∧ Hid (x = (L.take k).foldl refStep (flip c))) (fun _ i _ => L.length - (intOf i).toNat)
    case atStart => exact ⟨0, _, Nat.zero_le _, rfl, rfl, by rw [FL.out]; exact fb.1, by rw [FL.out]; exact fb.2, FL⟩
    case round =>
      obtain ⟨k, x, hk, rfl, rfl, x0, x1, HX⟩ := hrel
      by_cases hlt : k < L.length
      · have hc := hcell k hlt
        have HS := refFold_snoc L k (flip c) hlt
        rw [← HX.out] at HS
        obtain ⟨bk, hbk⟩ : ∃ bk, L.getD k false = bk := ⟨_, rfl⟩
        rw [hbk] at hc HS
        have HS' : Hid ((L.take (k + 1)).foldl refStep (flip c) = refStep x bk) := HS
        have rb := refStep_bd x bk x0 x1
        clear HS hbk hcell
        go_wp2
        · have E := refStep_yes x bk (by assumption)
          go_round
          case rel => exact ⟨k + 1, _, by omega, by go_num, rfl, by rw [← E]; exact rb.1, by rw [← E]; exact rb.2, by rw [← E]; exact HS'.out.symm⟩
          case measure => simp [intOf]; omega
        · have E := refStep_no x bk (by assumption)
          go_round
          case rel => exact ⟨k + 1, _, by omega, by go_num, rfl, by rw [← E]; exact rb.1, by rw [← E]; exact rb.2, by rw [← E]; exact HS'.out.symm⟩
          case measure => simp [intOf]; omega
      · have hX := HX.out
        rw [List.take_of_length_le (by omega)] at hX
        have HF : Hid (bits .xor .u32 x 4294967295 = y) := by
          show bits .xor .u32 x 4294967295 = y
          rw [flip_lit x x0 x1, hX, HE'.out]
        clear hX
        go_wp2
        go_ret
        exact ⟨ret_u32 HF.out, hbel⟩

set_option maxHeartbeats 400000 in
theorem rfour_any (n : Int) (w : World) (h0 : 0 ≤ n) (h1 : n < 4294967296) :
    Calls Tryd.prog 47 #[.int .u32 n] w fun e w' => e = .returned (.slice (some ⟨w.heap.size, 0, none⟩) 4 4) ∧ w'.ownsRow w.heap.size 5 1 (.slice (some ⟨w.heap.size, 0, none⟩) 4 4) 4 (vals (four n)) ∧ Below w.heap.size w w' := by
  go_enter Tryd.func47, Tryd.ntmps47
  go_wp2
  go_ret
  exact ⟨rfl, World.ownsRow_lit w _ 4 (Nat.le_refl _) (by decide) rfl, (Below.refl _ _).alloc (Nat.le_refl _) _⟩
end Go.Proofs.YteeclghhoioapaaDoor
