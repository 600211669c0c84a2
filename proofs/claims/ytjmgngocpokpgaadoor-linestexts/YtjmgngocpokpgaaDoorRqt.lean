/-
  The document's own Quote.
-/
import Derived.Test.YtjmgngocpokpgaaDoorRf1
namespace Go.Proofs.YtjmgngocpokpgaaDoor
open Go.RowKit
set_option linter.unusedVariables false
set_option linter.unusedSimpArgs false
theorem wrap_fin : ∀ n : Fin 256, IntKind.u8.wrap ((n.val : Int) / 16) = (n.val : Int) / 16 ∧ (n.val : Int).tmod 16 = (n.val : Int) % 16 := by decide +kernel
set_option maxRecDepth 100000 in
set_option maxHeartbeats 8000000 in
theorem rquote_any (l : List UInt8) (w : World) (hs : l.length ≤ 2 ^ 30) :
    Calls Tryd.prog 20 #[.string ⟨l.toArray⟩] w fun e w' => e = .returned (.string ⟨(qtL l).toArray⟩) ∧ Below w.heap.size w w' := by
  obtain ⟨i5, hi5, hz50, hz51, hz52⟩ := info_parts Tryd.info5
  obtain ⟨N, hN⟩ : ∃ N, l.length = N := ⟨_, rfl⟩
  have hNi : (N : Int) ≤ 2 ^ 30 := by omega
  have n0 : (0 : Int) ≤ N := by omega
  have hsz : (ByteArray.mk l.toArray).size = N := hN
  go_enter Tryd.func20, Tryd.ntmps20
  go_wp2
  have B2 : Hid (Below w.heap.size w (w.alloc (.cells #[.int .u8 34] 5))) := (Below.refl _ w).alloc (Nat.le_refl _) _
  have O2' : Hid ((w.alloc (.cells #[.int .u8 34] 5)).ownsRow w.heap.size 5 1 (.slice (some ⟨w.heap.size, 0, none⟩) 1 1) 1 (vals (zL [34]))) := ⟨rfl, .inr ⟨w.heap.size, 1, #[.int .u8 34], rfl, Nat.le_refl _, Go.heap_alloc_new w _, by decide, by decide, by decide, rfl⟩⟩
  go_loopw [3, 4] (fun v t wr => ∃ (k a : Nat) (acc : List UInt8), t = .int .i64 k ∧ 34 :: (l.take k).flatMap escL = acc ∧ acc.length = a ∧ a ≤ 4 * k + 1 ∧ k ≤ N ∧ wr.ownsRow w.heap.size 5 1 v a (vals (zL acc)) ∧ Below w.heap.size w wr) (fun _ t _ => N - (intOf t).toNat)
  case atStart => exact ⟨0, 1, [34], rfl, by simp, rfl, by omega, by omega, O2'.out, B2.out⟩
  case round =>
    obtain ⟨k, a, acc, rfl, hac, hal, ha4, hk, hown, hbel⟩ := hrel
    have HAC := hide2 hac
    have HO := hide2 hown
    have HB := hide2 hbel
    have HA := hide2 hal
    clear hac hown hbel hal
    have k0 : (0 : Int) ≤ k := by omega
    rcases ik : l[k]? with _ | c
    · have hl := len_none ik
      have hl' : ¬ (k : Int) < N := by omega
      have hkN : k = N := by omega
      have HKN := hide2 hkN
      clear hkN
      go_wp2_with (at_builtin; refine wpList_append_form _ rfl (.tmp 55) (.tmp 56) 22 rfl w.heap.size 5 i5 (.int .u8 0) 1 1 Tryd.underlying22 hi5 hz50 hz51 hz52 rfl (by decide) _ a (vals (zL acc)) rfl (HO.out.alloc _) ⟨wr.heap.size, 0, none⟩ 1 1 (vals [34]) rfl rfl (World.news_of_block (heap_alloc_new wr _)) (vals_one _) (by omega) (by unfold maxLen; omega) (by omega) (by have := HB.out.size; simp; omega) ?_; intro g3 c3 w3 hown3 hgrow3; obtain ⟨O3, B3⟩ := app_more (new := [34]) rfl HA.out rfl HO.out HB.out (Nat.le_refl _) hown3 hgrow3; have hcv := str_row w3 w.heap.size (a + 1) _ (acc ++ [34]) (by simp [HA.out]) O3.out; clear hown3 hgrow3)
      refine bodyPost_ret (v := .string ⟨(acc ++ [34]).toArray⟩) (by simp [results, Tryd.results20, go_sem]) rfl ?_
      refine ⟨?_, B3.out⟩
      have hT : l.take k = l := List.take_of_length_le (by rw [HKN.out]; omega)
      have hq : qtL l = acc ++ [34] := by rw [← HAC.out, hT]; rfl
      rw [hq]
    · have ek := ix_eq ik
      have hkl := ix_lt ik
      have hl' : (k : Int) < N := by omega
      have lo := u8_lo c
      have hi := u8_hi c
      have HIK := hide2 ik
      by_cases h1 : (c.toNat : Int) = 34
      · have h1' : c.toNat = 34 := by omega
        have HEC : Hid (escL c = [92, 34]) := by show _ = _; unfold escL; rw [if_pos (.inl h1'), UInt8.toNat_inj.1 (show c.toNat = UInt8.toNat 34 from h1')]
        go_wp2_with (at_builtin; refine wpList_append_form _ rfl (.tmp 22) (.tmp 24) 22 rfl w.heap.size 5 i5 (.int .u8 0) 1 1 Tryd.underlying22 hi5 hz50 hz51 hz52 rfl (by decide) _ a (vals (zL acc)) rfl (HO.out.alloc _) ⟨wr.heap.size, 0, none⟩ 2 2 (vals [92, 34]) rfl rfl (World.news_of_block (heap_alloc_new wr _)) (vals_one _) (by omega) (by unfold maxLen; omega) (by omega) (by have := HB.out.size; simp; omega) ?_; intro g3 c3 w3 hown3 hgrow3; obtain ⟨O3, B3⟩ := app_more (new := [92, 34]) rfl HA.out rfl HO.out HB.out (Nat.le_refl _) hown3 hgrow3; clear hown3 hgrow3)
        go_roundw
        case rel => exact ⟨k + 1, a + 2, acc ++ [92, 34], by go_num, by rw [qt_snoc l k c HIK.out, HEC.out, HAC.out], by simp [HA.out], by omega, by omega, O3.out, B3.out⟩
        case measure => simp [intOf]; omega
      by_cases h2 : (c.toNat : Int) = 92
      · have h2' : c.toNat = 92 := by omega
        have HEC : Hid (escL c = [92, 92]) := by show _ = _; unfold escL; rw [if_pos (.inr h2'), UInt8.toNat_inj.1 (show c.toNat = UInt8.toNat 92 from h2')]
        go_wp2_with (at_builtin; refine wpList_append_form _ rfl (.tmp 22) (.tmp 24) 22 rfl w.heap.size 5 i5 (.int .u8 0) 1 1 Tryd.underlying22 hi5 hz50 hz51 hz52 rfl (by decide) _ a (vals (zL acc)) rfl (HO.out.alloc _) ⟨wr.heap.size, 0, none⟩ 2 2 (vals [92, 92]) rfl rfl (World.news_of_block (heap_alloc_new wr _)) (vals_one _) (by omega) (by unfold maxLen; omega) (by omega) (by have := HB.out.size; simp; omega) ?_; intro g3 c3 w3 hown3 hgrow3; obtain ⟨O3, B3⟩ := app_more (new := [92, 92]) rfl HA.out rfl HO.out HB.out (Nat.le_refl _) hown3 hgrow3; clear hown3 hgrow3)
        go_roundw
        case rel => exact ⟨k + 1, a + 2, acc ++ [92, 92], by go_num, by rw [qt_snoc l k c HIK.out, HEC.out, HAC.out], by simp [HA.out], by omega, by omega, O3.out, B3.out⟩
        case measure => simp [intOf]; omega
      have h12 : ¬ (c.toNat = 34 ∨ c.toNat = 92) := by omega
      have hb1 : ((c.toNat : Int) == 34) = false := by rw [beq_eq_false_iff_ne]; exact h1
      have hb2 : ((c.toNat : Int) == 92) = false := by rw [beq_eq_false_iff_ne]; exact h2
      have hb12 : ¬ ((c.toNat : Int) = 34 ∨ (c.toNat : Int) = 92) := by omega
      by_cases h3 : (c.toNat : Int) = 10
      · have h3' : c.toNat = 10 := by omega
        have HEC : Hid (escL c = [92, 110]) := by show _ = _; unfold escL; rw [if_neg h12, if_pos h3']
        go_wp2_with (at_builtin; refine wpList_append_form _ rfl (.tmp 28) (.tmp 29) 22 rfl w.heap.size 5 i5 (.int .u8 0) 1 1 Tryd.underlying22 hi5 hz50 hz51 hz52 rfl (by decide) _ a (vals (zL acc)) rfl (HO.out.alloc _) ⟨wr.heap.size, 0, none⟩ 2 2 (vals [92, 110]) rfl rfl (World.news_of_block (heap_alloc_new wr _)) (vals_one _) (by omega) (by unfold maxLen; omega) (by omega) (by have := HB.out.size; simp; omega) ?_; intro g3 c3 w3 hown3 hgrow3; obtain ⟨O3, B3⟩ := app_more (new := [92, 110]) rfl HA.out rfl HO.out HB.out (Nat.le_refl _) hown3 hgrow3; clear hown3 hgrow3)
        go_roundw
        case rel => exact ⟨k + 1, a + 2, acc ++ [92, 110], by go_num, by rw [qt_snoc l k c HIK.out, HEC.out, HAC.out], by simp [HA.out], by omega, by omega, O3.out, B3.out⟩
        case measure => simp [intOf]; omega
      by_cases h4 : (c.toNat : Int) = 9
      · have h4' : c.toNat = 9 := by omega
        have HEC : Hid (escL c = [92, 116]) := by show _ = _; unfold escL; rw [if_neg h12, if_neg (by omega), if_pos h4']
        go_wp2_with (at_builtin; refine wpList_append_form _ rfl (.tmp 33) (.tmp 34) 22 rfl w.heap.size 5 i5 (.int .u8 0) 1 1 Tryd.underlying22 hi5 hz50 hz51 hz52 rfl (by decide) _ a (vals (zL acc)) rfl (HO.out.alloc _) ⟨wr.heap.size, 0, none⟩ 2 2 (vals [92, 116]) rfl rfl (World.news_of_block (heap_alloc_new wr _)) (vals_one _) (by omega) (by unfold maxLen; omega) (by omega) (by have := HB.out.size; simp; omega) ?_; intro g3 c3 w3 hown3 hgrow3; obtain ⟨O3, B3⟩ := app_more (new := [92, 116]) rfl HA.out rfl HO.out HB.out (Nat.le_refl _) hown3 hgrow3; clear hown3 hgrow3)
        go_roundw
        case rel => exact ⟨k + 1, a + 2, acc ++ [92, 116], by go_num, by rw [qt_snoc l k c HIK.out, HEC.out, HAC.out], by simp [HA.out], by omega, by omega, O3.out, B3.out⟩
        case measure => simp [intOf]; omega
      cases h5 : unsF (c.toNat : Int) with
      | true =>
        have HEC : Hid (escL c = [92, 120, hexD (c.toNat / 16), hexD (c.toNat % 16)]) := by show _ = _; unfold escL; rw [if_neg h12, if_neg (by omega), if_neg (by omega), if_pos h5]
        have h5' := of_decide_eq_true h5
        by_cases h6 : (c.toNat : Int) < 32
        · go_wp2_with fail
          have HOd : Hid (wr.drew.ownsRow w.heap.size 5 1 u3 a (vals (zL acc))) := own_blk HO.out (fun k hk => rfl)
          have d0 : (0 : Int) ≤ (c.toNat : Int) / 16 := by omega
          have d1 : (c.toNat : Int) / 16 < 16 := by omega
          have m0 : (0 : Int) ≤ (c.toNat : Int) % 16 := by omega
          have m1 : (c.toNat : Int) % 16 < 16 := by omega
          have x1 := hex_ix (c.toNat / 16) ((c.toNat : Int) / 16) (by omega) (by omega)
          have x2 := hex_ix (c.toNat % 16) ((c.toNat : Int) % 16) (by omega) (by omega)
          obtain ⟨hwr, htm⟩ : IntKind.u8.wrap ((c.toNat : Int) / 16) = (c.toNat : Int) / 16 ∧ (c.toNat : Int).tmod 16 = (c.toNat : Int) % 16 := wrap_fin ⟨c.toNat, c.toNat_lt⟩
          go_region_law (refine step_append_own rfl (.tmp 42) (.tmp 49) 22 rfl w.heap.size 5 i5 (.int .u8 0) 1 1 Tryd.underlying22 hi5 hz50 hz51 hz52 rfl (by decide) _ a (vals (zL acc)) rfl (HOd.out.alloc _) ⟨wr.heap.size, 0, none⟩ 4 4 (vals [92, 120, ((hexD (c.toNat / 16)).toNat : Int), ((hexD (c.toNat % 16)).toNat : Int)]) rfl rfl (World.news_of_block (heap_alloc_new wr.drew _)) (vals_one _) (by unfold maxLen; omega) (by omega) (by have := HB.out.size; simp; omega) ?_; intro v3 w3 hown3 hgrow3; have HOW3 := hide2 hown3; have HGR3 := hide2 hgrow3; clear hown3 hgrow3)
          all_goals obtain ⟨O3, B3⟩ := app_more (w1 := wr.drew) (new := [92, 120, hexD (c.toNat / 16), hexD (c.toNat % 16)]) rfl HA.out rfl HOd.out (below_drewN HB.out 1) (Nat.le_refl _) HOW3.out HGR3.out
          all_goals clear HOW3 HGR3
          all_goals go_wp2_with fail
          all_goals go_roundw
          all_goals first
            | exact ⟨k + 1, a + 4, acc ++ [92, 120, hexD (c.toNat / 16), hexD (c.toNat % 16)], by go_num, by rw [qt_snoc l k c HIK.out, HEC.out, HAC.out], by simp [HA.out], by omega, by omega, O3.out, B3.out⟩
            | (simp [intOf]; omega)
        · have h7 : ((c.toNat : Int) == 127) = true := by rw [beq_iff_eq]; omega
          clear h5'
          go_wp2_with fail
          have HOd : Hid (wr.drew.ownsRow w.heap.size 5 1 u3 a (vals (zL acc))) := own_blk HO.out (fun k hk => rfl)
          have d0 : (0 : Int) ≤ (c.toNat : Int) / 16 := by omega
          have d1 : (c.toNat : Int) / 16 < 16 := by omega
          have m0 : (0 : Int) ≤ (c.toNat : Int) % 16 := by omega
          have m1 : (c.toNat : Int) % 16 < 16 := by omega
          have x1 := hex_ix (c.toNat / 16) ((c.toNat : Int) / 16) (by omega) (by omega)
          have x2 := hex_ix (c.toNat % 16) ((c.toNat : Int) % 16) (by omega) (by omega)
          obtain ⟨hwr, htm⟩ : IntKind.u8.wrap ((c.toNat : Int) / 16) = (c.toNat : Int) / 16 ∧ (c.toNat : Int).tmod 16 = (c.toNat : Int) % 16 := wrap_fin ⟨c.toNat, c.toNat_lt⟩
          go_region_law (refine step_append_own rfl (.tmp 42) (.tmp 49) 22 rfl w.heap.size 5 i5 (.int .u8 0) 1 1 Tryd.underlying22 hi5 hz50 hz51 hz52 rfl (by decide) _ a (vals (zL acc)) rfl (HOd.out.alloc _) ⟨wr.heap.size, 0, none⟩ 4 4 (vals [92, 120, ((hexD (c.toNat / 16)).toNat : Int), ((hexD (c.toNat % 16)).toNat : Int)]) rfl rfl (World.news_of_block (heap_alloc_new wr.drew _)) (vals_one _) (by unfold maxLen; omega) (by omega) (by have := HB.out.size; simp; omega) ?_; intro v3 w3 hown3 hgrow3; have HOW3 := hide2 hown3; have HGR3 := hide2 hgrow3; clear hown3 hgrow3)
          all_goals obtain ⟨O3, B3⟩ := app_more (w1 := wr.drew) (new := [92, 120, hexD (c.toNat / 16), hexD (c.toNat % 16)]) rfl HA.out rfl HOd.out (below_drewN HB.out 1) (Nat.le_refl _) HOW3.out HGR3.out
          all_goals clear HOW3 HGR3
          all_goals go_wp2_with fail
          all_goals go_roundw
          all_goals first
            | exact ⟨k + 1, a + 4, acc ++ [92, 120, hexD (c.toNat / 16), hexD (c.toNat % 16)], by go_num, by rw [qt_snoc l k c HIK.out, HEC.out, HAC.out], by simp [HA.out], by omega, by omega, O3.out, B3.out⟩
            | (simp [intOf]; omega)
      | false =>
        have HEC : Hid (escL c = [c]) := by show _ = _; unfold escL; rw [if_neg h12, if_neg (by omega), if_neg (by omega), if_neg (by rw [h5]; simp)]
        have f5 := of_decide_eq_false h5
        have f6 : ¬ (c.toNat : Int) < 32 := by omega
        have f7 : ¬ (c.toNat : Int) = 127 := by omega
        have f8 : ((c.toNat : Int) == 127) = false := by rw [beq_eq_false_iff_ne]; exact f7
        clear f5
        go_wp2_with first
          | fail
          | (at_builtin; refine wpList_append_form _ rfl (.tmp 51) (.tmp 53) 22 rfl w.heap.size 5 i5 (.int .u8 0) 1 1 Tryd.underlying22 hi5 hz50 hz51 hz52 rfl (by decide) _ a (vals (zL acc)) rfl (HO.out.alloc _) ⟨wr.heap.size, 0, none⟩ 1 1 (vals [(c.toNat : Int)]) rfl rfl (World.news_of_block (heap_alloc_new wr _)) (vals_one _) (by omega) (by unfold maxLen; omega) (by omega) (by have := HB.out.size; simp; omega) ?_; intro g3 c3 w3 hown3 hgrow3; obtain ⟨O3, B3⟩ := app_more (new := [c]) rfl HA.out rfl HO.out HB.out (Nat.le_refl _) hown3 hgrow3; clear hown3 hgrow3)
        go_roundw
        case rel => exact ⟨k + 1, a + 1, acc ++ [c], by go_num, by rw [qt_snoc l k c HIK.out, HEC.out, HAC.out], by simp [HA.out], by omega, by omega, O3.out, B3.out⟩
        case measure => simp [intOf]; omega
end Go.Proofs.YtjmgngocpokpgaaDoor
