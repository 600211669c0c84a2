/-
  The document's own: a host folded, paths and methods asked.
-/
import Derived.Test.YtfhobglcploaoaaDoorKPb
namespace Go.Proofs.YtfhobglcploaoaaDoor.Kk
open Go.RowKit
set_option linter.unusedVariables false
set_option linter.unusedSimpArgs false
set_option maxRecDepth 100000
def fdF (l : List UInt8) : List UInt8 := if hostB l then fldF l else []
theorem fold_any (l : List UInt8) (w : World) (hs : l.length ≤ 2 ^ 62) : Calls Tryd.prog 33 #[.string ⟨l.toArray⟩] w fun e w' => e = .returned (.tuple #[.string ⟨(fdF l).toArray⟩, .bool (hostB l)]) ∧ Below w.heap.size w w' := by
  cases h : hostB l with
  | true =>
    refine (fold_ok l w hs h).mono ?_
    rintro e w' ⟨rfl, hb⟩
    exact ⟨by rw [fdF, if_pos h], hb⟩
  | false =>
    refine (fold_no l w hs h).mono ?_
    rintro e w' ⟨rfl, rfl⟩
    exact ⟨by rw [fdF, if_neg (by simp [h])], Below.refl _ _⟩
theorem own_nil (w : World) (base : Nat) (e : TypeId) (size : Nat) : w.ownsRow base e size (.slice none 0 0) 0 [] := ⟨by simp, .inl ⟨rfl, rfl⟩⟩
theorem own_form {w : World} {base : Nat} {e : TypeId} {size : Nat} {v : Value} {n : Nat} {xs : List Value} (h : w.ownsRow base e size v n xs) : ∃ a cp, v = .slice a n cp ∧ (a = none → cp = 0) ∧ n ≤ cp ∧ cp ≤ maxLen := by
  rcases h.2 with ⟨rfl, h0⟩ | ⟨g, cp, cur, rfl, _, _, hc, hm, _⟩
  · subst h0; exact ⟨none, 0, rfl, fun _ => rfl, Nat.le_refl _, by decide⟩
  · exact ⟨_, cp, rfl, (fun h => by cases h), hc, hm⟩
theorem app_one {w wr w3 : World} {base k g3 c3 : Nat} {v : Value} {o : Obj} {acc : List UInt8} {c : UInt8} {z : Int} (hz : (c.toNat : Int) = z) (HO : wr.ownsRow base 5 1 v k (vals (zL acc))) (HB : Below base w wr) (hb : base ≤ w.heap.size)
    (hown : w3.ownsRow base 5 1 (.slice (some ⟨g3, 0, none⟩) (k + 1) c3) (k + 1) (vals (zL acc) ++ vals [z])) (hg : (wr.alloc o).grownBy w3 v.ownBlock) :
    Hid (w3.ownsRow base 5 1 (.slice (some ⟨g3, 0, none⟩) (k + 1) c3) (k + 1) (vals (zL (acc ++ [c])))) ∧ Hid (Below base w w3) := by
  refine ⟨?_, ?_⟩
  · show w3.ownsRow _ _ _ _ _ _
    rw [zL_append, vals_append]
    have : zL [c] = [z] := by simp [zL, hz]
    rw [this]; exact hown
  · have hs : base ≤ wr.heap.size := Nat.le_trans hb HB.size
    exact (HB.alloc hs _).grown hg (by simp; omega) (fun k h => by
      have := (HO.lt k h).1
      omega)
theorem str_own (w : World) (base n : Nat) (v : Value) (l : List UInt8) (hn : l.length = n) (h0 : 0 < n) (hB : w.ownsRow base 5 1 v n (vals (zL l))) : (convert 75 9 v).run Tryd.prog w = .ok (.string ⟨l.toArray⟩) w := by
  rcases hB.2 with ⟨rfl, h1⟩ | ⟨g, cap, cur, rfl, _, hgg, _⟩
  · omega
  · exact str_has w g n cap l hn (own_has hB)
theorem fldF_snoc (l : List UInt8) (k : Nat) (h : k < l.length) : fldF (l.take (k + 1)) = fldF (l.take k) ++ [smlF l[k]] := by
  rw [take_one l k h, fldF, fldF, List.map_append]; rfl
theorem hos_snoc {l : List UInt8} {k : Nat} (hlt : k < l.length) (HI : ∀ i (h : i < l.length), i < k → hosF (l[i].toNat : Int) = true) (HH : hosF (l[k].toNat : Int) = true) : ∀ i (h : i < l.length), i < k + 1 → hosF (l[i].toNat : Int) = true := fun i h h2 => by
  rcases Nat.lt_succ_iff_lt_or_eq.1 h2 with h3 | rfl
  · exact HI i h h3
  · exact HH
set_option maxHeartbeats 4000000 in
theorem rfold_any (l : List UInt8) (w : World) (hs : l.length ≤ 2 ^ 62) : Calls Tryd.prog 37 #[.string ⟨l.toArray⟩] w fun e w' => e = .returned (.tuple #[.string ⟨(fdF l).toArray⟩, .bool (hostB l)]) ∧ Below w.heap.size w w' := by
  by_cases he : l = []
  · subst he
    go_enter Tryd.func37, Tryd.ntmps37
    go_wp2
    go_ret2
    exact ⟨rfl, Below.refl _ _⟩
  have hemp : l.isEmpty = false := by simpa using he
  by_cases hl : 64 < l.length
  · have HE : Hid (hostB l = false) := by simp [Hid, hostB]; omega
    have hl' : (64 : Int) < l.length := by omega
    go_enter Tryd.func37, Tryd.ntmps37
    go_wp2
    go_ret2
    exact ⟨by rw [fdF, HE.out]; rfl, Below.refl _ _⟩
  have hl' : ¬ (64 : Int) < l.length := by omega
  obtain ⟨i5, hi5, hz0, hz1, hz2⟩ := info_parts Tryd.info5
  have HEM := hide2 he
  clear he
  go_enter Tryd.func37, Tryd.ntmps37
  go_wp2_with fail
  go_loopw [4, 5] (fun v t wr => ∃ (k : Nat), k ≤ l.length ∧ t = .int .i64 k ∧ Hid (wr.ownsRow w.heap.size 5 1 v k (vals (zL (fldF (l.take k))))) ∧ Hid (∀ i (h : i < l.length), i < k → hosF (l[i].toNat : Int) = true) ∧ Hid (Below w.heap.size w wr)) (fun _ t _ => l.length - (intOf t).toNat)
  case atStart => exact ⟨0, by omega, rfl, own_nil _ _ _ _, (fun i h h2 => by omega : ∀ i (h : i < l.length), i < 0 → hosF (l[i].toNat : Int) = true), Below.refl _ _⟩
  case round =>
    obtain ⟨k, hk, rfl, HO, HI, HB⟩ := hrel
    obtain ⟨ao, cp, rfl, hbare, hLc, hcm⟩ := own_form HO.out
    have k0 : (0 : Int) ≤ k := by omega
    by_cases hlt : k < l.length
    · have hlt' : (k : Int) < l.length := by omega
      have hk64 : k < 64 := by omega
      have lo : 0 ≤ ((ByteArray.mk l.toArray)[k].toNat : Int) := u8_lo _
      have hi : ((ByteArray.mk l.toArray)[k].toNat : Int) ≤ 255 := u8_hi _
      have HS : Hid (((smlF l[k]).toNat : Int) = smlI ((ByteArray.mk l.toArray)[k].toNat : Int)) := smlF_nat l[k]
      have HF := hide2 (fldF_snoc l k hlt)
      cases hh : hosF ((ByteArray.mk l.toArray)[k].toNat : Int) with
      | false =>
        have HH := hide2 hh
        simp only [hosF, decide_eq_false_iff_not] at hh
        have HM : Hid (hostB l = false) := by simp [Hid, hostB, madF_false hlt HH.out]
        have HX := hide2 hh
        clear hh
        have n45 : (((ByteArray.mk l.toArray)[k].toNat : Int) == 45) = false := by have := HX.out; simp; omega
        have n46 : (((ByteArray.mk l.toArray)[k].toNat : Int) == 46) = false := by have := HX.out; simp; omega
        rcases (by have := HX.out; omega : ((ByteArray.mk l.toArray)[k].toNat : Int) < 48 ∨ (57 < ((ByteArray.mk l.toArray)[k].toNat : Int) ∧ ((ByteArray.mk l.toArray)[k].toNat : Int) < 65) ∨ (90 < ((ByteArray.mk l.toArray)[k].toNat : Int) ∧ ((ByteArray.mk l.toArray)[k].toNat : Int) < 97) ∨ 122 < ((ByteArray.mk l.toArray)[k].toNat : Int)) with r1 | ⟨r1, r2⟩ | ⟨r1, r2⟩ | r1
        · have q0 : ¬ 65 ≤ ((ByteArray.mk l.toArray)[k].toNat : Int) := by omega
          have q1 : ¬ 97 ≤ ((ByteArray.mk l.toArray)[k].toNat : Int) := by omega
          have q2 : ¬ 48 ≤ ((ByteArray.mk l.toArray)[k].toNat : Int) := by omega
          clear r1
          go_wp2
          go_ret2
          exact ⟨by rw [fdF, HM.out]; rfl, HB.out⟩
        · have q0 : ¬ 65 ≤ ((ByteArray.mk l.toArray)[k].toNat : Int) := by omega
          have q1 : ¬ 97 ≤ ((ByteArray.mk l.toArray)[k].toNat : Int) := by omega
          have q2 : 48 ≤ ((ByteArray.mk l.toArray)[k].toNat : Int) := by omega
          have q3 : ¬ ((ByteArray.mk l.toArray)[k].toNat : Int) ≤ 57 := by omega
          clear r1 r2
          go_wp2
          go_ret2
          exact ⟨by rw [fdF, HM.out]; rfl, HB.out⟩
        · have q0 : 65 ≤ ((ByteArray.mk l.toArray)[k].toNat : Int) := by omega
          have q1 : ¬ ((ByteArray.mk l.toArray)[k].toNat : Int) ≤ 90 := by omega
          have q2 : ¬ 97 ≤ ((ByteArray.mk l.toArray)[k].toNat : Int) := by omega
          have q3 : 48 ≤ ((ByteArray.mk l.toArray)[k].toNat : Int) := by omega
          have q4 : ¬ ((ByteArray.mk l.toArray)[k].toNat : Int) ≤ 57 := by omega
          clear r1 r2
          go_wp2
          go_ret2
          exact ⟨by rw [fdF, HM.out]; rfl, HB.out⟩
        · have q0 : 65 ≤ ((ByteArray.mk l.toArray)[k].toNat : Int) := by omega
          have q1 : ¬ ((ByteArray.mk l.toArray)[k].toNat : Int) ≤ 90 := by omega
          have q2 : 97 ≤ ((ByteArray.mk l.toArray)[k].toNat : Int) := by omega
          have q3 : ¬ ((ByteArray.mk l.toArray)[k].toNat : Int) ≤ 122 := by omega
          have q4 : 48 ≤ ((ByteArray.mk l.toArray)[k].toNat : Int) := by omega
          have q5 : ¬ ((ByteArray.mk l.toArray)[k].toNat : Int) ≤ 57 := by omega
          clear r1
          go_wp2
          go_ret2
          exact ⟨by rw [fdF, HM.out]; rfl, HB.out⟩
      | true =>
        have HH := hide2 hh
        simp only [hosF, decide_eq_true_eq] at hh
        by_cases b1 : 65 ≤ ((ByteArray.mk l.toArray)[k].toNat : Int) ∧ ((ByteArray.mk l.toArray)[k].toNat : Int) ≤ 90
        · obtain ⟨b1, b2⟩ := b1
          have b3 : 97 ≤ ((ByteArray.mk l.toArray)[k].toNat : Int) - 65 + 97 := by omega
          have b4 : ((ByteArray.mk l.toArray)[k].toNat : Int) - 65 + 97 ≤ 122 := by omega
          have HZ : Hid (((smlF l[k]).toNat : Int) = ((ByteArray.mk l.toArray)[k].toNat : Int) - 65 + 97) := by
            show _ = _
            rw [HS.out, smlI, if_pos (by simp [greF]; omega)]; omega
          have HX := hide2 hh
          clear hh
          go_wp2_with (at_builtin; refine wpList_append_form _ rfl (.tmp 55) (.tmp 57) 75 rfl w.heap.size 5 i5 (.int .u8 0) 1 1 Tryd.underlying75 hi5 hz0 hz1 hz2 rfl (by decide) _ k (vals (zL (fldF (l.take k)))) rfl (HO.out.alloc _) ⟨wr.heap.size, 0, none⟩ 1 1 (vals [((ByteArray.mk l.toArray)[k].toNat : Int) - 65 + 97]) rfl rfl (World.news_of_block (heap_alloc_new wr _)) (vals_one _) (by omega) (by unfold maxLen; omega) (by omega) (by have := HB.out.size; simp; omega) ?_; intro g3 c3 w3 hown3 hgrow3; obtain ⟨O3, B3⟩ := app_one HZ.out HO.out HB.out (Nat.le_refl _) hown3 hgrow3; clear hown3 hgrow3)
          all_goals first | (exfalso; omega) | skip
          go_roundw
          case rel => exact ⟨k + 1, by omega, by go_num, by have := O3.out; rw [← HF.out] at this; exact this, hos_snoc hlt HI.out HH.out, B3.out⟩
          case measure => simp [intOf]; omega
        · have HZ : Hid (((smlF l[k]).toNat : Int) = ((ByteArray.mk l.toArray)[k].toNat : Int)) := by
            show _ = _
            rw [HS.out, smlI, if_neg (by simp [greF]; omega)]
          rcases (by omega : (97 ≤ ((ByteArray.mk l.toArray)[k].toNat : Int) ∧ ((ByteArray.mk l.toArray)[k].toNat : Int) ≤ 122) ∨ (48 ≤ ((ByteArray.mk l.toArray)[k].toNat : Int) ∧ ((ByteArray.mk l.toArray)[k].toNat : Int) ≤ 57) ∨ ((ByteArray.mk l.toArray)[k].toNat : Int) = 45 ∨ ((ByteArray.mk l.toArray)[k].toNat : Int) = 46) with ⟨b2, b3⟩ | ⟨b2, b3⟩ | b2 | b2
          · have b4 : ¬ ((ByteArray.mk l.toArray)[k].toNat : Int) ≤ 90 := by omega
            have b5 : 65 ≤ ((ByteArray.mk l.toArray)[k].toNat : Int) := by omega
            clear b1 hh
            go_wp2_with (at_builtin; refine wpList_append_form _ rfl (.tmp 55) (.tmp 57) 75 rfl w.heap.size 5 i5 (.int .u8 0) 1 1 Tryd.underlying75 hi5 hz0 hz1 hz2 rfl (by decide) _ k (vals (zL (fldF (l.take k)))) rfl (HO.out.alloc _) ⟨wr.heap.size, 0, none⟩ 1 1 (vals [((ByteArray.mk l.toArray)[k].toNat : Int)]) rfl rfl (World.news_of_block (heap_alloc_new wr _)) (vals_one _) (by omega) (by unfold maxLen; omega) (by omega) (by have := HB.out.size; simp; omega) ?_; intro g3 c3 w3 hown3 hgrow3; obtain ⟨O3, B3⟩ := app_one HZ.out HO.out HB.out (Nat.le_refl _) hown3 hgrow3; clear hown3 hgrow3)
            all_goals first | (exfalso; omega) | skip
            go_roundw
            case rel => exact ⟨k + 1, by omega, by go_num, by have := O3.out; rw [← HF.out] at this; exact this, hos_snoc hlt HI.out HH.out, B3.out⟩
            case measure => simp [intOf]; omega
          · have b4 : ¬ 65 ≤ ((ByteArray.mk l.toArray)[k].toNat : Int) := by omega
            have b5 : ¬ 97 ≤ ((ByteArray.mk l.toArray)[k].toNat : Int) := by omega
            clear b1 hh
            go_wp2_with (at_builtin; refine wpList_append_form _ rfl (.tmp 55) (.tmp 57) 75 rfl w.heap.size 5 i5 (.int .u8 0) 1 1 Tryd.underlying75 hi5 hz0 hz1 hz2 rfl (by decide) _ k (vals (zL (fldF (l.take k)))) rfl (HO.out.alloc _) ⟨wr.heap.size, 0, none⟩ 1 1 (vals [((ByteArray.mk l.toArray)[k].toNat : Int)]) rfl rfl (World.news_of_block (heap_alloc_new wr _)) (vals_one _) (by omega) (by unfold maxLen; omega) (by omega) (by have := HB.out.size; simp; omega) ?_; intro g3 c3 w3 hown3 hgrow3; obtain ⟨O3, B3⟩ := app_one HZ.out HO.out HB.out (Nat.le_refl _) hown3 hgrow3; clear hown3 hgrow3)
            all_goals first | (exfalso; omega) | skip
            go_roundw
            case rel => exact ⟨k + 1, by omega, by go_num, by have := O3.out; rw [← HF.out] at this; exact this, hos_snoc hlt HI.out HH.out, B3.out⟩
            case measure => simp [intOf]; omega
          · have b4 : ¬ 65 ≤ ((ByteArray.mk l.toArray)[k].toNat : Int) := by omega
            have b5 : ¬ 97 ≤ ((ByteArray.mk l.toArray)[k].toNat : Int) := by omega
            have b6 : ¬ 48 ≤ ((ByteArray.mk l.toArray)[k].toNat : Int) := by omega
            have HZ : Hid (((smlF l[k]).toNat : Int) = 45) := HZ.out.trans b2
            clear b1 hh b4 b5 b6
            go_wp2_with (at_builtin; refine wpList_append_form _ rfl (.tmp 55) (.tmp 57) 75 rfl w.heap.size 5 i5 (.int .u8 0) 1 1 Tryd.underlying75 hi5 hz0 hz1 hz2 rfl (by decide) _ k (vals (zL (fldF (l.take k)))) rfl (HO.out.alloc _) ⟨wr.heap.size, 0, none⟩ 1 1 (vals [45]) rfl rfl (World.news_of_block (heap_alloc_new wr _)) (vals_one _) (by omega) (by unfold maxLen; omega) (by omega) (by have := HB.out.size; simp; omega) ?_; intro g3 c3 w3 hown3 hgrow3; obtain ⟨O3, B3⟩ := app_one HZ.out HO.out HB.out (Nat.le_refl _) hown3 hgrow3; clear hown3 hgrow3)
            all_goals first | (exfalso; omega) | skip
            go_roundw
            case rel => exact ⟨k + 1, by omega, by go_num, by have := O3.out; rw [← HF.out] at this; exact this, hos_snoc hlt HI.out HH.out, B3.out⟩
            case measure => simp [intOf]; omega
          · have b4 : ¬ 65 ≤ ((ByteArray.mk l.toArray)[k].toNat : Int) := by omega
            have b5 : ¬ 97 ≤ ((ByteArray.mk l.toArray)[k].toNat : Int) := by omega
            have b6 : ¬ 48 ≤ ((ByteArray.mk l.toArray)[k].toNat : Int) := by omega
            have HZ : Hid (((smlF l[k]).toNat : Int) = 46) := HZ.out.trans b2
            clear b1 hh b4 b5 b6
            go_wp2_with (at_builtin; refine wpList_append_form _ rfl (.tmp 55) (.tmp 57) 75 rfl w.heap.size 5 i5 (.int .u8 0) 1 1 Tryd.underlying75 hi5 hz0 hz1 hz2 rfl (by decide) _ k (vals (zL (fldF (l.take k)))) rfl (HO.out.alloc _) ⟨wr.heap.size, 0, none⟩ 1 1 (vals [46]) rfl rfl (World.news_of_block (heap_alloc_new wr _)) (vals_one _) (by omega) (by unfold maxLen; omega) (by omega) (by have := HB.out.size; simp; omega) ?_; intro g3 c3 w3 hown3 hgrow3; obtain ⟨O3, B3⟩ := app_one HZ.out HO.out HB.out (Nat.le_refl _) hown3 hgrow3; clear hown3 hgrow3)
            all_goals first | (exfalso; omega) | skip
            go_roundw
            case rel => exact ⟨k + 1, by omega, by go_num, by have := O3.out; rw [← HF.out] at this; exact this, hos_snoc hlt HI.out HH.out, B3.out⟩
            case measure => simp [intOf]; omega
    · have hkl' : ¬ (k : Int) < l.length := by omega
      have hkn : k = l.length := by omega
      have hk0 : 0 < k := by
        rcases l with _ | ⟨c, l⟩
        · exact absurd rfl HEM.out
        · rw [hkn]; simp
      have HM : Hid (hostB l = true) := by
        have := madF_true (p := hosF) (l := l) fun j hj => HI.out j hj (by omega)
        simp [Hid, hostB, this, hemp]; omega
      have hcv := str_own wr w.heap.size k _ (fldF (l.take k)) (by rw [fldF, List.length_map, List.length_take]; omega) hk0 HO.out
      rw [hkn, List.take_length] at hcv
      rw [hkn]
      go_wp2
      go_ret2
      exact ⟨by rw [fdF, HM.out]; rfl, HB.out⟩
end Go.Proofs.YtfhobglcploaoaaDoor.Kk
