/-
  The document's numbers: laid and may; a message as the program has it.
-/
import Derived.Test.YteeclghhoioapaaDoorSp
namespace Go.Proofs.YteeclghhoioapaaDoor
open Go.RowKit
set_option linter.unusedVariables false
set_option linter.unusedSimpArgs false
set_option maxRecDepth 100000
theorem hideL {p : Prop} (h : p) : Hid p := h
set_option maxHeartbeats 1000000 in
theorem rmay_any (n : Int) (w : World) : Calls Tryd.prog 46 #[.int .i64 n] w fun e w' => e = .returned (.bool (num n)) ∧ w' = w := by
  by_cases h0 : n < 0
  · go_enter Tryd.func46, Tryd.ntmps46
    go_wp2
    go_ret
    exact ⟨ret_bool (by simp [num]; omega), rfl⟩
  · by_cases h1 : n ≤ 4611686018427387904
    all_goals
      go_enter Tryd.func46, Tryd.ntmps46
      go_wp2
      go_ret
      exact ⟨ret_bool (by simp [num]; omega), rfl⟩
set_option maxHeartbeats 1000000 in
theorem own_any (m : Ms) (w : World) (h1 : m.name.size ≤ maxLen) (h2 : m.text.size ≤ maxLen) :
    Calls Tryd.prog 10 #[mv m] w fun e w' => e = .returned (mv m) ∧ Below w.heap.size w w' := by
  obtain ⟨kind, name, ver, frm, non, err, text⟩ := m
  simp only [mv] at *
  go_enter Tryd.func10, Tryd.ntmps10
  go_wp2
  exact bodyPost_ret (v := .agg #[.int .i64 kind, .string name, .int .i64 ver, .int .i64 frm, .int .i64 non, .int .i64 err, .string text]) (by simp [results, Tryd.results10, go_sem]) rfl ⟨rfl, ((Below.refl _ _).alloc (Nat.le_refl _) _).alloc (by simp) _⟩
theorem digs_take (w k : Nat) (u : Int) (h : k < w) : (digs w u).take (k + 1) = (digs w u).take k ++ [u / 256 ^ (w - 1 - k) % 256] := by
  induction w generalizing k with
  | zero => omega
  | succ w ih =>
    cases k with
    | zero => simp [digs]
    | succ k =>
      rw [digs, List.take_succ_cons, ih k (by omega), List.take_succ_cons, List.cons_append]
      rw [show w + 1 - 1 - (k + 1) = w - 1 - k by omega]
/-- A number as eight bytes hold it. -/
def uw (n : Int) : Int := n % 18446744073709551616
theorem uw_bd (n : Int) : 0 ≤ uw n ∧ uw n < 18446744073709551616 := by unfold uw; omega
theorem uw_num (n : Int) (h : num n = true) : uw n = n := by have := num_bd n h; unfold uw; omega
theorem Rw.add1 {w2 : World} {base : Nat} {v2 : Value} {xs : List Int} {z : Int} (h : w2.ownsRow base 5 1 v2 (xs.length + 1) (vals xs ++ vals [z])) : Rw w2 base v2 (xs ++ [z]) := Rw.app h rfl rfl
theorem ld_news (w : World) (x z : Int) (B : Nat) (hB : B = w.heap.size) (hx : x = z) : ∀ j u', (vals [z])[j]? = some u' → (w.alloc (.cells #[.int .u8 x] 5)).cell? ((⟨B, 0, none⟩ : Addr).add j) = some u' := by
  subst hB hx
  exact fun j u h => World.news_of_block (heap_alloc_new w _) j u (by simpa [vals] using h)
set_option maxHeartbeats 4000000 in
theorem laid_any (n : Int) (wd : Nat) (w : World) (hw : wd = 2 ∨ wd = 4 ∨ wd = 8) (h0 : -9223372036854775808 ≤ n) (h1 : n ≤ 9223372036854775807) :
    Calls Tryd.prog 45 #[.int .i64 n, .int .i64 wd] w fun e w' => ∃ v, e = .returned v ∧ Rw w' w.heap.size v (digs wd (uw n)) ∧ Below w.heap.size w w' := by
  obtain ⟨i0, hi, hz0, hz1, hz2⟩ := info_parts Tryd.info5
  obtain ⟨u, hu⟩ : ∃ u, uw n = u := ⟨_, rfl⟩
  have HU : Hid (IntKind.u64.wrap n = u) := by rw [← hu]; show IntKind.u64.wrap n = uw n; simp [IntKind.wrap, IntKind.bits, IntKind.signed, uw]
  have ub := uw_bd n
  rw [hu] at ub ⊢
  have u0 := ub.1; have u1 := ub.2
  clear ub hu
  have hT := hideL (fun k h => digs_take wd k u h)
  have HL : Hid ((digs wd u).length = wd) := digs_length wd u
  rcases hw with rfl | rfl | rfl
  · show Calls Tryd.prog 45 #[.int .i64 n, .int .i64 2] w _
    go_enter Tryd.func45, Tryd.ntmps45
    go_wp2
    go_loopw [5, 6] (fun v i wr => ∃ k : Nat, k ≤ 2 ∧ i = .int .i64 (1 - (k : Int)) ∧ Rw wr w.heap.size v ((digs 2 u).take k) ∧ Below w.heap.size w wr) (fun _ i _ => (intOf i + 1).toNat)
    case atStart => exact ⟨0, by omega, rfl, Rw.nil _ _, Below.refl _ _⟩
    case round =>
      obtain ⟨k, hk, rfl, hr, hb⟩ := hrel
      have HR := hideL hr; have HB := hideL hb
      clear hr hb
      rcases (by omega : k = 0 ∨ k = 1 ∨ k = 2) with rfl | rfl | rfl
      · go_wp2_with (at_builtin; refine wpList_append_own _ rfl (.tmp 13) (.tmp 21) 24 rfl w.heap.size 5 i0 (.int .u8 0) 1 1 Tryd.underlying24 hi hz0 hz1 hz2 rfl (by decide) _ _ _ rfl (HR.out.keep ((Below.refl _ _).alloc (Nat.le_refl _) _)) _ _ _ (vals [u / 256 % 256]) rfl rfl (ld_news _ _ _ _ rfl (by rw [HU.out])) (vals_one _) (by simp [digs, maxLen]) (by simp [digs]) (by have := HB.out.size; simp; omega) ?_; intro v2 w2 hown2 hgrow2 hnil2)
        clear hnil2
        go_roundw
        case rel => exact ⟨1, by omega, by go_num, by rw [show 1 = 0 + 1 from rfl, hT.out 0 (by omega)]; simpa using Rw.add1 hown2, Below.of_rows (HB.out.alloc HB.out.size _) (Nat.le_refl _) hgrow2 (ows_base HR.out)⟩
        case measure => simp [intOf]
      · go_wp2_with (at_builtin; refine wpList_append_own _ rfl (.tmp 13) (.tmp 21) 24 rfl w.heap.size 5 i0 (.int .u8 0) 1 1 Tryd.underlying24 hi hz0 hz1 hz2 rfl (by decide) _ _ _ rfl (HR.out.keep ((Below.refl _ _).alloc (Nat.le_refl _) _)) _ _ _ (vals [u % 256]) rfl rfl (ld_news _ _ _ _ rfl (by rw [HU.out])) (vals_one _) (by simp [digs, maxLen]) (by simp [digs]) (by have := HB.out.size; simp; omega) ?_; intro v2 w2 hown2 hgrow2 hnil2)
        clear hnil2
        go_roundw
        case rel => exact ⟨2, by omega, by go_num, by rw [show 2 = 1 + 1 from rfl, hT.out 1 (by omega)]; simpa using Rw.add1 hown2, Below.of_rows (HB.out.alloc HB.out.size _) (Nat.le_refl _) hgrow2 (ows_base HR.out)⟩
        case measure => simp [intOf]
      · go_wp2
        go_ret
        exact ⟨_, rfl, by have := HR.out; rwa [List.take_of_length_le (by rw [HL.out]; omega)] at this, HB.out⟩
  · show Calls Tryd.prog 45 #[.int .i64 n, .int .i64 4] w _
    go_enter Tryd.func45, Tryd.ntmps45
    go_wp2
    go_loopw [5, 6] (fun v i wr => ∃ k : Nat, k ≤ 4 ∧ i = .int .i64 (3 - (k : Int)) ∧ Rw wr w.heap.size v ((digs 4 u).take k) ∧ Below w.heap.size w wr) (fun _ i _ => (intOf i + 1).toNat)
    case atStart => exact ⟨0, by omega, rfl, Rw.nil _ _, Below.refl _ _⟩
    case round =>
      obtain ⟨k, hk, rfl, hr, hb⟩ := hrel
      have HR := hideL hr; have HB := hideL hb
      clear hr hb
      rcases (by omega : k = 0 ∨ k = 1 ∨ k = 2 ∨ k = 3 ∨ k = 4) with rfl | rfl | rfl | rfl | rfl
      · go_wp2_with (at_builtin; refine wpList_append_own _ rfl (.tmp 13) (.tmp 21) 24 rfl w.heap.size 5 i0 (.int .u8 0) 1 1 Tryd.underlying24 hi hz0 hz1 hz2 rfl (by decide) _ _ _ rfl (HR.out.keep ((Below.refl _ _).alloc (Nat.le_refl _) _)) _ _ _ (vals [u / 16777216 % 256]) rfl rfl (ld_news _ _ _ _ rfl (by rw [HU.out])) (vals_one _) (by simp [digs, maxLen]) (by simp [digs]) (by have := HB.out.size; simp; omega) ?_; intro v2 w2 hown2 hgrow2 hnil2)
        clear hnil2
        go_roundw
        case rel => exact ⟨1, by omega, by go_num, by rw [show 1 = 0 + 1 from rfl, hT.out 0 (by omega)]; simpa using Rw.add1 hown2, Below.of_rows (HB.out.alloc HB.out.size _) (Nat.le_refl _) hgrow2 (ows_base HR.out)⟩
        case measure => simp [intOf]
      · go_wp2_with (at_builtin; refine wpList_append_own _ rfl (.tmp 13) (.tmp 21) 24 rfl w.heap.size 5 i0 (.int .u8 0) 1 1 Tryd.underlying24 hi hz0 hz1 hz2 rfl (by decide) _ _ _ rfl (HR.out.keep ((Below.refl _ _).alloc (Nat.le_refl _) _)) _ _ _ (vals [u / 65536 % 256]) rfl rfl (ld_news _ _ _ _ rfl (by rw [HU.out])) (vals_one _) (by simp [digs, maxLen]) (by simp [digs]) (by have := HB.out.size; simp; omega) ?_; intro v2 w2 hown2 hgrow2 hnil2)
        clear hnil2
        go_roundw
        case rel => exact ⟨2, by omega, by go_num, by rw [show 2 = 1 + 1 from rfl, hT.out 1 (by omega)]; simpa using Rw.add1 hown2, Below.of_rows (HB.out.alloc HB.out.size _) (Nat.le_refl _) hgrow2 (ows_base HR.out)⟩
        case measure => simp [intOf]
      · go_wp2_with (at_builtin; refine wpList_append_own _ rfl (.tmp 13) (.tmp 21) 24 rfl w.heap.size 5 i0 (.int .u8 0) 1 1 Tryd.underlying24 hi hz0 hz1 hz2 rfl (by decide) _ _ _ rfl (HR.out.keep ((Below.refl _ _).alloc (Nat.le_refl _) _)) _ _ _ (vals [u / 256 % 256]) rfl rfl (ld_news _ _ _ _ rfl (by rw [HU.out])) (vals_one _) (by simp [digs, maxLen]) (by simp [digs]) (by have := HB.out.size; simp; omega) ?_; intro v2 w2 hown2 hgrow2 hnil2)
        clear hnil2
        go_roundw
        case rel => exact ⟨3, by omega, by go_num, by rw [show 3 = 2 + 1 from rfl, hT.out 2 (by omega)]; simpa using Rw.add1 hown2, Below.of_rows (HB.out.alloc HB.out.size _) (Nat.le_refl _) hgrow2 (ows_base HR.out)⟩
        case measure => simp [intOf]
      · go_wp2_with (at_builtin; refine wpList_append_own _ rfl (.tmp 13) (.tmp 21) 24 rfl w.heap.size 5 i0 (.int .u8 0) 1 1 Tryd.underlying24 hi hz0 hz1 hz2 rfl (by decide) _ _ _ rfl (HR.out.keep ((Below.refl _ _).alloc (Nat.le_refl _) _)) _ _ _ (vals [u % 256]) rfl rfl (ld_news _ _ _ _ rfl (by rw [HU.out])) (vals_one _) (by simp [digs, maxLen]) (by simp [digs]) (by have := HB.out.size; simp; omega) ?_; intro v2 w2 hown2 hgrow2 hnil2)
        clear hnil2
        go_roundw
        case rel => exact ⟨4, by omega, by go_num, by rw [show 4 = 3 + 1 from rfl, hT.out 3 (by omega)]; simpa using Rw.add1 hown2, Below.of_rows (HB.out.alloc HB.out.size _) (Nat.le_refl _) hgrow2 (ows_base HR.out)⟩
        case measure => simp [intOf]
      · go_wp2
        go_ret
        exact ⟨_, rfl, by have := HR.out; rwa [List.take_of_length_le (by rw [HL.out]; omega)] at this, HB.out⟩
  · show Calls Tryd.prog 45 #[.int .i64 n, .int .i64 8] w _
    go_enter Tryd.func45, Tryd.ntmps45
    go_wp2
    go_loopw [5, 6] (fun v i wr => ∃ k : Nat, k ≤ 8 ∧ i = .int .i64 (7 - (k : Int)) ∧ Rw wr w.heap.size v ((digs 8 u).take k) ∧ Below w.heap.size w wr) (fun _ i _ => (intOf i + 1).toNat)
    case atStart => exact ⟨0, by omega, rfl, Rw.nil _ _, Below.refl _ _⟩
    case round =>
      obtain ⟨k, hk, rfl, hr, hb⟩ := hrel
      have HR := hideL hr; have HB := hideL hb
      clear hr hb
      rcases (by omega : k = 0 ∨ k = 1 ∨ k = 2 ∨ k = 3 ∨ k = 4 ∨ k = 5 ∨ k = 6 ∨ k = 7 ∨ k = 8) with rfl | rfl | rfl | rfl | rfl | rfl | rfl | rfl | rfl
      · go_wp2_with (at_builtin; refine wpList_append_own _ rfl (.tmp 13) (.tmp 21) 24 rfl w.heap.size 5 i0 (.int .u8 0) 1 1 Tryd.underlying24 hi hz0 hz1 hz2 rfl (by decide) _ _ _ rfl (HR.out.keep ((Below.refl _ _).alloc (Nat.le_refl _) _)) _ _ _ (vals [u / 72057594037927936 % 256]) rfl rfl (ld_news _ _ _ _ rfl (by rw [HU.out])) (vals_one _) (by simp [digs, maxLen]) (by simp [digs]) (by have := HB.out.size; simp; omega) ?_; intro v2 w2 hown2 hgrow2 hnil2)
        clear hnil2
        go_roundw
        case rel => exact ⟨1, by omega, by go_num, by rw [show 1 = 0 + 1 from rfl, hT.out 0 (by omega)]; simpa using Rw.add1 hown2, Below.of_rows (HB.out.alloc HB.out.size _) (Nat.le_refl _) hgrow2 (ows_base HR.out)⟩
        case measure => simp [intOf]
      · go_wp2_with (at_builtin; refine wpList_append_own _ rfl (.tmp 13) (.tmp 21) 24 rfl w.heap.size 5 i0 (.int .u8 0) 1 1 Tryd.underlying24 hi hz0 hz1 hz2 rfl (by decide) _ _ _ rfl (HR.out.keep ((Below.refl _ _).alloc (Nat.le_refl _) _)) _ _ _ (vals [u / 281474976710656 % 256]) rfl rfl (ld_news _ _ _ _ rfl (by rw [HU.out])) (vals_one _) (by simp [digs, maxLen]) (by simp [digs]) (by have := HB.out.size; simp; omega) ?_; intro v2 w2 hown2 hgrow2 hnil2)
        clear hnil2
        go_roundw
        case rel => exact ⟨2, by omega, by go_num, by rw [show 2 = 1 + 1 from rfl, hT.out 1 (by omega)]; simpa using Rw.add1 hown2, Below.of_rows (HB.out.alloc HB.out.size _) (Nat.le_refl _) hgrow2 (ows_base HR.out)⟩
        case measure => simp [intOf]
      · go_wp2_with (at_builtin; refine wpList_append_own _ rfl (.tmp 13) (.tmp 21) 24 rfl w.heap.size 5 i0 (.int .u8 0) 1 1 Tryd.underlying24 hi hz0 hz1 hz2 rfl (by decide) _ _ _ rfl (HR.out.keep ((Below.refl _ _).alloc (Nat.le_refl _) _)) _ _ _ (vals [u / 1099511627776 % 256]) rfl rfl (ld_news _ _ _ _ rfl (by rw [HU.out])) (vals_one _) (by simp [digs, maxLen]) (by simp [digs]) (by have := HB.out.size; simp; omega) ?_; intro v2 w2 hown2 hgrow2 hnil2)
        clear hnil2
        go_roundw
        case rel => exact ⟨3, by omega, by go_num, by rw [show 3 = 2 + 1 from rfl, hT.out 2 (by omega)]; simpa using Rw.add1 hown2, Below.of_rows (HB.out.alloc HB.out.size _) (Nat.le_refl _) hgrow2 (ows_base HR.out)⟩
        case measure => simp [intOf]
      · go_wp2_with (at_builtin; refine wpList_append_own _ rfl (.tmp 13) (.tmp 21) 24 rfl w.heap.size 5 i0 (.int .u8 0) 1 1 Tryd.underlying24 hi hz0 hz1 hz2 rfl (by decide) _ _ _ rfl (HR.out.keep ((Below.refl _ _).alloc (Nat.le_refl _) _)) _ _ _ (vals [u / 4294967296 % 256]) rfl rfl (ld_news _ _ _ _ rfl (by rw [HU.out])) (vals_one _) (by simp [digs, maxLen]) (by simp [digs]) (by have := HB.out.size; simp; omega) ?_; intro v2 w2 hown2 hgrow2 hnil2)
        clear hnil2
        go_roundw
        case rel => exact ⟨4, by omega, by go_num, by rw [show 4 = 3 + 1 from rfl, hT.out 3 (by omega)]; simpa using Rw.add1 hown2, Below.of_rows (HB.out.alloc HB.out.size _) (Nat.le_refl _) hgrow2 (ows_base HR.out)⟩
        case measure => simp [intOf]
      · go_wp2_with (at_builtin; refine wpList_append_own _ rfl (.tmp 13) (.tmp 21) 24 rfl w.heap.size 5 i0 (.int .u8 0) 1 1 Tryd.underlying24 hi hz0 hz1 hz2 rfl (by decide) _ _ _ rfl (HR.out.keep ((Below.refl _ _).alloc (Nat.le_refl _) _)) _ _ _ (vals [u / 16777216 % 256]) rfl rfl (ld_news _ _ _ _ rfl (by rw [HU.out])) (vals_one _) (by simp [digs, maxLen]) (by simp [digs]) (by have := HB.out.size; simp; omega) ?_; intro v2 w2 hown2 hgrow2 hnil2)
        clear hnil2
        go_roundw
        case rel => exact ⟨5, by omega, by go_num, by rw [show 5 = 4 + 1 from rfl, hT.out 4 (by omega)]; simpa using Rw.add1 hown2, Below.of_rows (HB.out.alloc HB.out.size _) (Nat.le_refl _) hgrow2 (ows_base HR.out)⟩
        case measure => simp [intOf]
      · go_wp2_with (at_builtin; refine wpList_append_own _ rfl (.tmp 13) (.tmp 21) 24 rfl w.heap.size 5 i0 (.int .u8 0) 1 1 Tryd.underlying24 hi hz0 hz1 hz2 rfl (by decide) _ _ _ rfl (HR.out.keep ((Below.refl _ _).alloc (Nat.le_refl _) _)) _ _ _ (vals [u / 65536 % 256]) rfl rfl (ld_news _ _ _ _ rfl (by rw [HU.out])) (vals_one _) (by simp [digs, maxLen]) (by simp [digs]) (by have := HB.out.size; simp; omega) ?_; intro v2 w2 hown2 hgrow2 hnil2)
        clear hnil2
        go_roundw
        case rel => exact ⟨6, by omega, by go_num, by rw [show 6 = 5 + 1 from rfl, hT.out 5 (by omega)]; simpa using Rw.add1 hown2, Below.of_rows (HB.out.alloc HB.out.size _) (Nat.le_refl _) hgrow2 (ows_base HR.out)⟩
        case measure => simp [intOf]
      · go_wp2_with (at_builtin; refine wpList_append_own _ rfl (.tmp 13) (.tmp 21) 24 rfl w.heap.size 5 i0 (.int .u8 0) 1 1 Tryd.underlying24 hi hz0 hz1 hz2 rfl (by decide) _ _ _ rfl (HR.out.keep ((Below.refl _ _).alloc (Nat.le_refl _) _)) _ _ _ (vals [u / 256 % 256]) rfl rfl (ld_news _ _ _ _ rfl (by rw [HU.out])) (vals_one _) (by simp [digs, maxLen]) (by simp [digs]) (by have := HB.out.size; simp; omega) ?_; intro v2 w2 hown2 hgrow2 hnil2)
        clear hnil2
        go_roundw
        case rel => exact ⟨7, by omega, by go_num, by rw [show 7 = 6 + 1 from rfl, hT.out 6 (by omega)]; simpa using Rw.add1 hown2, Below.of_rows (HB.out.alloc HB.out.size _) (Nat.le_refl _) hgrow2 (ows_base HR.out)⟩
        case measure => simp [intOf]
      · go_wp2_with (at_builtin; refine wpList_append_own _ rfl (.tmp 13) (.tmp 21) 24 rfl w.heap.size 5 i0 (.int .u8 0) 1 1 Tryd.underlying24 hi hz0 hz1 hz2 rfl (by decide) _ _ _ rfl (HR.out.keep ((Below.refl _ _).alloc (Nat.le_refl _) _)) _ _ _ (vals [u % 256]) rfl rfl (ld_news _ _ _ _ rfl (by rw [HU.out])) (vals_one _) (by simp [digs, maxLen]) (by simp [digs]) (by have := HB.out.size; simp; omega) ?_; intro v2 w2 hown2 hgrow2 hnil2)
        clear hnil2
        go_roundw
        case rel => exact ⟨8, by omega, by go_num, by rw [show 8 = 7 + 1 from rfl, hT.out 7 (by omega)]; simpa using Rw.add1 hown2, Below.of_rows (HB.out.alloc HB.out.size _) (Nat.le_refl _) hgrow2 (ows_base HR.out)⟩
        case measure => simp [intOf]
      · go_wp2
        go_ret
        exact ⟨_, rfl, by have := HR.out; rwa [List.take_of_length_le (by rw [HL.out]; omega)] at this, HB.out⟩
end Go.Proofs.YteeclghhoioapaaDoor
