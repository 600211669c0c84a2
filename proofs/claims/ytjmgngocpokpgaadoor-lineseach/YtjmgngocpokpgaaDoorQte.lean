/-
  lines.Quote.
-/
import Derived.Test.YtjmgngocpokpgaaDoorQtm
import Derived.Deep.RegionLaw
namespace Go.Proofs.YtjmgngocpokpgaaDoor
open Go.RowKit
set_option linter.unusedVariables false
set_option linter.unusedSimpArgs false
/-- More bytes in a row of bytes. -/
theorem app_more {w w1 w2 : World} {base n m : Nat} {v v' : Value} {acc new : List UInt8} {zs : List Int} {o : Obj} (hz : zL new = zs) (hn : acc.length = n) (hm : new.length = m) (O1 : w1.ownsRow base 5 1 v n (vals (zL acc))) (B1 : Below w.heap.size w w1) (hb : w.heap.size ≤ base) (hown : w2.ownsRow base 5 1 v' (n + m) (vals (zL acc) ++ vals zs)) (hg : (w1.alloc o).grownBy w2 v.ownBlock) :
    Hid (w2.ownsRow base 5 1 v' (n + m) (vals (zL (acc ++ new)))) ∧ Hid (Below w.heap.size w w2) := by
  subst hn hm hz
  refine ⟨by show w2.ownsRow _ _ _ _ _ _; rw [zL_append, vals_append]; exact hown, (B1.alloc B1.size _).grown hg (by have := B1.size; simp; omega) (fun k h => Nat.le_trans hb (O1.lt k h).1)⟩
theorem qt_snoc (l : List UInt8) (k : Nat) (c : UInt8) (h : l[k]? = some c) : 34 :: (l.take (k + 1)).flatMap escL = (34 :: (l.take k).flatMap escL) ++ escL c := by
  rw [List.take_add_one, h, Option.toList_some, List.flatMap_append]
  simp
theorem and_fin : ∀ n : Fin 256, bits BinOp.and IntKind.u8 (n.val : Int) 15 = (n.val : Int) % 16 := by decide +kernel
theorem hexes : ∀ k : Fin 16, (ByteArray.mk #[48, 49, 50, 51, 52, 53, 54, 55, 56, 57, 97, 98, 99, 100, 101, 102])[k.val]'k.2 = hexD k.val := by decide +kernel
theorem hex_ix (n : Nat) (m : Int) (hm : m.toNat = n) (h : m.toNat < 16) : (ByteArray.mk #[48, 49, 50, 51, 52, 53, 54, 55, 56, 57, 97, 98, 99, 100, 101, 102])[m.toNat]'h = hexD n := by
  subst hm
  exact hexes ⟨m.toNat, h⟩
set_option maxRecDepth 100000 in
set_option maxHeartbeats 8000000 in
theorem quote_any (l : List UInt8) (w : World) (hs : l.length ≤ 2 ^ 30) :
    Calls Tryd.prog 19 #[.string ⟨l.toArray⟩] w fun e w' => e = .returned (.string ⟨(qtL l).toArray⟩) ∧ Below w.heap.size w w' := by
  obtain ⟨i5, hi5, hz50, hz51, hz52⟩ := info_parts Tryd.info5
  obtain ⟨N, hN⟩ : ∃ N, l.length = N := ⟨_, rfl⟩
  have hNi : (N : Int) ≤ 2 ^ 30 := by omega
  have n0 : (0 : Int) ≤ N := by omega
  have hsz : (ByteArray.mk l.toArray).size = N := hN
  go_enter Tryd.func19, Tryd.ntmps19
  go_wp2_with first
    | (at_make; refine wpList_make_own _ rfl (.const (.int .i64 0)) (.tmp 8) 22 rfl w.heap.size 5 i5 (.int .u8 0) 1 Tryd.underlying22 hi5 hz50 hz51 .i64 .i64 ((N : Int) + 2) (N + 2) rfl rfl (by omega) (by rw [hz52]; omega) (by unfold maxLen; omega) (Nat.le_refl _) ?_; intro w1 hown1 hgrow1
       have O1 : Hid (w1.ownsRow w.heap.size 5 1 (.slice (some ⟨w.heap.size, 0, none⟩) 0 (N + 2)) 0 (vals (zL []))) := hown1
       have B1 : Hid (Below w.heap.size w w1) := (Below.refl _ _).grown hgrow1 (Nat.le_refl _) (fun k h => by cases h)
       clear hown1 hgrow1)
    | (at_builtin; refine wpList_append_form _ rfl (.tmp 10) (.tmp 11) 22 rfl w.heap.size 5 i5 (.int .u8 0) 1 1 Tryd.underlying22 hi5 hz50 hz51 hz52 rfl (by decide) _ 0 (vals (zL [])) rfl (O1.out.alloc _) ⟨w1.heap.size, 0, none⟩ 1 1 (vals [34]) rfl rfl (World.news_of_block (heap_alloc_new w1 _)) (vals_one _) (by omega) (by unfold maxLen; omega) (by omega) (by have := B1.out.size; simp; omega) ?_; intro g2 c2 w2 hown2 hgrow2
       obtain ⟨O2, B2⟩ := app_more (new := [34]) rfl rfl rfl O1.out B1.out (Nat.le_refl _) hown2 hgrow2
       clear hown2 hgrow2)
  have hsl : w2.ownsRow w.heap.size 5 1 (.slice (some ⟨g2, 0, none⟩) (0 + 1) c2) 1 (vals (zL [34])) := O2.out
  have O2' := hide2 hsl
  clear hsl O2 O1 B1
  go_loopw [3, 15] (fun v t wr => ∃ (k a : Nat) (acc : List UInt8), t = .int .i64 k ∧ 34 :: (l.take k).flatMap escL = acc ∧ acc.length = a ∧ a ≤ 4 * k + 1 ∧ k ≤ N ∧ wr.ownsRow w.heap.size 5 1 v a (vals (zL acc)) ∧ Below w.heap.size w wr) (fun _ t _ => N - (intOf t).toNat)
  case atStart => exact ⟨0, 1, [34], rfl, by simp, rfl, by omega, by omega, O2'.out, B2.out⟩
  case round =>
    obtain ⟨k, a, acc, rfl, hac, hal, ha4, hk, hown, hbel⟩ := hrel
    have HAC := hide2 hac
    have HO := hide2 hown
    have HB := hide2 hbel
    have HA := hide2 hal
    clear hac hown hbel hal
    have k0 : (0 : Int) ≤ k := by omega
    rcases ik : l[k]? with _ | c
    · have hl := len_none ik
      have hl' : ¬ (k : Int) < N := by omega
      have hkN : k = N := by omega
      have HKN := hide2 hkN
      clear hkN
      go_wp2_with (at_builtin; refine wpList_append_form _ rfl (.tmp 59) (.tmp 60) 22 rfl w.heap.size 5 i5 (.int .u8 0) 1 1 Tryd.underlying22 hi5 hz50 hz51 hz52 rfl (by decide) _ a (vals (zL acc)) rfl (HO.out.alloc _) ⟨wr.heap.size, 0, none⟩ 1 1 (vals [34]) rfl rfl (World.news_of_block (heap_alloc_new wr _)) (vals_one _) (by omega) (by unfold maxLen; omega) (by omega) (by have := HB.out.size; simp; omega) ?_; intro g3 c3 w3 hown3 hgrow3; obtain ⟨O3, B3⟩ := app_more (new := [34]) rfl HA.out rfl HO.out HB.out (Nat.le_refl _) hown3 hgrow3; have hcv := str_row w3 w.heap.size (a + 1) _ (acc ++ [34]) (by simp [HA.out]) O3.out; clear hown3 hgrow3)
      refine bodyPost_ret (v := .string ⟨(acc ++ [34]).toArray⟩) (by simp [results, Tryd.results19, go_sem]) rfl ?_
      refine ⟨?_, B3.out⟩
      have hT : l.take k = l := List.take_of_length_le (by rw [HKN.out]; omega)
      have hq : qtL l = acc ++ [34] := by rw [← HAC.out, hT]; rfl
      rw [hq]
    · have ek := ix_eq ik
      have hkl := ix_lt ik
      have hl' : (k : Int) < N := by omega
      have lo := u8_lo c
      have hi := u8_hi c
      have HIK := hide2 ik
      by_cases h1 : (c.toNat : Int) = 34
      · have h1' : c.toNat = 34 := by omega
        have HEC : Hid (escL c = [92, 34]) := by show _ = _; unfold escL; rw [if_pos (.inl h1'), UInt8.toNat_inj.1 (show c.toNat = UInt8.toNat 34 from h1')]
        go_wp2_with (at_builtin; refine wpList_append_form _ rfl (.tmp 30) (.tmp 32) 22 rfl w.heap.size 5 i5 (.int .u8 0) 1 1 Tryd.underlying22 hi5 hz50 hz51 hz52 rfl (by decide) _ a (vals (zL acc)) rfl (HO.out.alloc _) ⟨wr.heap.size, 0, none⟩ 2 2 (vals [92, 34]) rfl rfl (World.news_of_block (heap_alloc_new wr _)) (vals_one _) (by omega) (by unfold maxLen; omega) (by omega) (by have := HB.out.size; simp; omega) ?_; intro g3 c3 w3 hown3 hgrow3; obtain ⟨O3, B3⟩ := app_more (new := [92, 34]) rfl HA.out rfl HO.out HB.out (Nat.le_refl _) hown3 hgrow3; clear hown3 hgrow3)
        go_roundw
        case rel => exact ⟨k + 1, a + 2, acc ++ [92, 34], by go_num, by rw [qt_snoc l k c HIK.out, HEC.out, HAC.out], by simp [HA.out], by omega, by omega, O3.out, B3.out⟩
        case measure => simp [intOf]; omega
      by_cases h2 : (c.toNat : Int) = 92
      · have h2' : c.toNat = 92 := by omega
        have HEC : Hid (escL c = [92, 92]) := by show _ = _; unfold escL; rw [if_pos (.inr h2'), UInt8.toNat_inj.1 (show c.toNat = UInt8.toNat 92 from h2')]
        go_wp2_with (at_builtin; refine wpList_append_form _ rfl (.tmp 30) (.tmp 32) 22 rfl w.heap.size 5 i5 (.int .u8 0) 1 1 Tryd.underlying22 hi5 hz50 hz51 hz52 rfl (by decide) _ a (vals (zL acc)) rfl (HO.out.alloc _) ⟨wr.heap.size, 0, none⟩ 2 2 (vals [92, 92]) rfl rfl (World.news_of_block (heap_alloc_new wr _)) (vals_one _) (by omega) (by unfold maxLen; omega) (by omega) (by have := HB.out.size; simp; omega) ?_; intro g3 c3 w3 hown3 hgrow3; obtain ⟨O3, B3⟩ := app_more (new := [92, 92]) rfl HA.out rfl HO.out HB.out (Nat.le_refl _) hown3 hgrow3; clear hown3 hgrow3)
        go_roundw
        case rel => exact ⟨k + 1, a + 2, acc ++ [92, 92], by go_num, by rw [qt_snoc l k c HIK.out, HEC.out, HAC.out], by simp [HA.out], by omega, by omega, O3.out, B3.out⟩
        case measure => simp [intOf]; omega
      have h12 : ¬ (c.toNat = 34 ∨ c.toNat = 92) := by omega
      by_cases h3 : (c.toNat : Int) = 10
      · have h3' : c.toNat = 10 := by omega
        have HEC : Hid (escL c = [92, 110]) := by show _ = _; unfold escL; rw [if_neg h12, if_pos h3']
        go_wp2_with (at_builtin; refine wpList_append_form _ rfl (.tmp 37) (.tmp 38) 22 rfl w.heap.size 5 i5 (.int .u8 0) 1 1 Tryd.underlying22 hi5 hz50 hz51 hz52 rfl (by decide) _ a (vals (zL acc)) rfl (HO.out.alloc _) ⟨wr.heap.size, 0, none⟩ 2 2 (vals [92, 110]) rfl rfl (World.news_of_block (heap_alloc_new wr _)) (vals_one _) (by omega) (by unfold maxLen; omega) (by omega) (by have := HB.out.size; simp; omega) ?_; intro g3 c3 w3 hown3 hgrow3; obtain ⟨O3, B3⟩ := app_more (new := [92, 110]) rfl HA.out rfl HO.out HB.out (Nat.le_refl _) hown3 hgrow3; clear hown3 hgrow3)
        go_roundw
        case rel => exact ⟨k + 1, a + 2, acc ++ [92, 110], by go_num, by rw [qt_snoc l k c HIK.out, HEC.out, HAC.out], by simp [HA.out], by omega, by omega, O3.out, B3.out⟩
        case measure => simp [intOf]; omega
      by_cases h4 : (c.toNat : Int) = 9
      · have h4' : c.toNat = 9 := by omega
        have HEC : Hid (escL c = [92, 116]) := by show _ = _; unfold escL; rw [if_neg h12, if_neg (by omega), if_pos h4']
        go_wp2_with (at_builtin; refine wpList_append_form _ rfl (.tmp 43) (.tmp 44) 22 rfl w.heap.size 5 i5 (.int .u8 0) 1 1 Tryd.underlying22 hi5 hz50 hz51 hz52 rfl (by decide) _ a (vals (zL acc)) rfl (HO.out.alloc _) ⟨wr.heap.size, 0, none⟩ 2 2 (vals [92, 116]) rfl rfl (World.news_of_block (heap_alloc_new wr _)) (vals_one _) (by omega) (by unfold maxLen; omega) (by omega) (by have := HB.out.size; simp; omega) ?_; intro g3 c3 w3 hown3 hgrow3; obtain ⟨O3, B3⟩ := app_more (new := [92, 116]) rfl HA.out rfl HO.out HB.out (Nat.le_refl _) hown3 hgrow3; clear hown3 hgrow3)
        go_roundw
        case rel => exact ⟨k + 1, a + 2, acc ++ [92, 116], by go_num, by rw [qt_snoc l k c HIK.out, HEC.out, HAC.out], by simp [HA.out], by omega, by omega, O3.out, B3.out⟩
        case measure => simp [intOf]; omega
      have hun := unseen_any (c.toNat : Int) lo (by omega)
      cases h5 : unsF (c.toNat : Int) with
      | true =>
        rw [h5] at hun
        have HEC : Hid (escL c = [92, 120, hexD (c.toNat / 16), hexD (c.toNat % 16)]) := by show _ = _; unfold escL; rw [if_neg h12, if_neg (by omega), if_neg (by omega), if_pos h5]
        go_wp2_with (go_at_call 32; refine (hun _).mono ?_; rintro e w' ⟨rfl, hw'⟩; obtain rfl : wr = w' := hw'.symm)
        have HOd : Hid (wr.drew.ownsRow w.heap.size 5 1 u3 a (vals (zL acc))) := own_blk HO.out (fun k hk => rfl)
        have d0 : (0 : Int) ≤ (c.toNat : Int) / 16 := by omega
        have d1 : (c.toNat : Int) / 16 < 16 := by omega
        have m0 : (0 : Int) ≤ (c.toNat : Int) % 16 := by omega
        have m1 : (c.toNat : Int) % 16 < 16 := by omega
        have x1 := hex_ix (c.toNat / 16) ((c.toNat : Int) / 16) (by omega) (by omega)
        have x2 := hex_ix (c.toNat % 16) ((c.toNat : Int) % 16) (by omega) (by omega)
        have hand : bits BinOp.and IntKind.u8 (c.toNat : Int) 15 = (c.toNat : Int) % 16 := and_fin ⟨c.toNat, c.toNat_lt⟩
        go_region_law (refine step_append_own rfl (.tmp 49) (.tmp 56) 22 rfl w.heap.size 5 i5 (.int .u8 0) 1 1 Tryd.underlying22 hi5 hz50 hz51 hz52 rfl (by decide) _ a (vals (zL acc)) rfl (HOd.out.alloc _) ⟨wr.heap.size, 0, none⟩ 4 4 (vals [92, 120, ((hexD (c.toNat / 16)).toNat : Int), ((hexD (c.toNat % 16)).toNat : Int)]) rfl rfl (World.news_of_block (heap_alloc_new wr.drew _)) (vals_one _) (by unfold maxLen; omega) (by omega) (by have := HB.out.size; simp; omega) ?_; intro v3 w3 hown3 hgrow3; have HOW3 := hide2 hown3; have HGR3 := hide2 hgrow3; clear hown3 hgrow3)
        all_goals obtain ⟨O3, B3⟩ := app_more (w1 := wr.drew) (new := [92, 120, hexD (c.toNat / 16), hexD (c.toNat % 16)]) rfl HA.out rfl HOd.out (below_drewN HB.out 1) (Nat.le_refl _) HOW3.out HGR3.out
        all_goals clear HOW3 HGR3
        all_goals go_wp2_with fail
        all_goals go_roundw
        all_goals first
          | exact ⟨k + 1, a + 4, acc ++ [92, 120, hexD (c.toNat / 16), hexD (c.toNat % 16)], by go_num, by rw [qt_snoc l k c HIK.out, HEC.out, HAC.out], by simp [HA.out], by omega, by omega, O3.out, B3.out⟩
          | (simp [intOf]; omega)
      | false =>
        rw [h5] at hun
        have HEC : Hid (escL c = [c]) := by show _ = _; unfold escL; rw [if_neg h12, if_neg (by omega), if_neg (by omega), if_neg (by rw [h5]; simp)]
        go_wp2_with first
          | (go_at_call 32; refine (hun _).mono ?_; rintro e w' ⟨rfl, hw'⟩; obtain rfl : wr = w' := hw'.symm)
          | (at_builtin; refine wpList_append_form _ rfl (.tmp 21) (.tmp 23) 22 rfl w.heap.size 5 i5 (.int .u8 0) 1 1 Tryd.underlying22 hi5 hz50 hz51 hz52 rfl (by decide) _ a (vals (zL acc)) rfl (HO.out.alloc _) ⟨wr.heap.size, 0, none⟩ 1 1 (vals [(c.toNat : Int)]) rfl rfl (World.news_of_block (heap_alloc_new wr _)) (vals_one _) (by omega) (by unfold maxLen; omega) (by omega) (by have := HB.out.size; simp; omega) ?_; intro g3 c3 w3 hown3 hgrow3; obtain ⟨O3, B3⟩ := app_more (new := [c]) rfl HA.out rfl HO.out HB.out (Nat.le_refl _) hown3 hgrow3; clear hown3 hgrow3)
        go_roundw
        case rel => exact ⟨k + 1, a + 1, acc ++ [c], by go_num, by rw [qt_snoc l k c HIK.out, HEC.out, HAC.out], by simp [HA.out], by omega, by omega, O3.out, B3.out⟩
        case measure => simp [intOf]; omega
end Go.Proofs.YtjmgngocpokpgaaDoor
