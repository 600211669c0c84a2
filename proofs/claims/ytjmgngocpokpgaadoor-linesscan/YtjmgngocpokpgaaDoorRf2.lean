/-
  The document's own reader: quoted texts.
-/
import Derived.Test.YtjmgngocpokpgaaDoorRf1
namespace Go.Proofs.YtjmgngocpokpgaaDoor
open Go.RowKit
set_option linter.unusedVariables false
set_option linter.unusedSimpArgs false
def refE (p : Nat) (o : Option (List UInt8 × Nat)) : Ending := match o with
  | none => .returned (.tuple #[.string ⟨#[]⟩, .int .i64 (-1)])
  | some (t, m) => .returned (.tuple #[.string ⟨t.toArray⟩, .int .i64 ((p + m : Nat) : Int)])
theorem escF_at (l : List UInt8) (j : Nat) : escF (l.drop j) = match l[j + 1]? with
  | none => none
  | some c => if (c.toNat : Int) = 34 ∨ (c.toNat : Int) = 92 then some (c, 2) else if (c.toNat : Int) = 110 then some (10, 2) else if (c.toNat : Int) = 116 then some (9, 2)
    else if (c.toNat : Int) = 120 then (if 0 ≤ digF l (j + 2) ∧ 0 ≤ digF l (j + 3) then some (hexB (digF l (j + 2)) (digF l (j + 3)), 4) else none) else none := by
  unfold escF digF
  simp only [List.getElem?_drop]
  rcases l[j + 1]? with _ | c
  · rfl
  · dsimp only
    rcases l[j + 2]? with _ | h
    · rcases l[j + 3]? with _ | m <;> simp
    · rcases l[j + 3]? with _ | m
      · simp
      · rfl
theorem digF_bd (l : List UInt8) (i : Nat) : -1 ≤ digF l i ∧ digF l i ≤ 15 := by
  unfold digF
  split
  · omega
  · exact hexI_bd _
theorem digF_lt (l : List UInt8) (i : Nat) (h : 0 ≤ digF l i) : i < l.length := by
  unfold digF at h
  split at h
  · omega
  · rename_i c hc
    exact ix_lt hc
theorem hexB_nat (a b : Int) (h0 : 0 ≤ a) (h1 : a ≤ 15) (h2 : 0 ≤ b) (h3 : b ≤ 15) : ((hexB a b).toNat : Int) = 16 * a + b := by
  unfold hexB
  have : (16 * a + b).toNat < 256 := by omega
  simp
  omega
set_option maxRecDepth 100000 in
set_option maxHeartbeats 8000000 in
theorem double_ref (l : List UInt8) (p : Nat) (w : World) (hs : l.length ≤ 2 ^ 40) (hp : p < l.length) :
    Calls Tryd.prog 71 #[.string ⟨l.toArray⟩, .int .i64 ((p + 1 : Nat) : Int)] w fun e w' => e = refE p (unqD (l.drop p) (l.drop p).length 1 []) ∧ Below w.heap.size w w' := by
  obtain ⟨i5, hi5, hz50, hz51, hz52⟩ := info_parts Tryd.info5
  obtain ⟨R, hR⟩ : ∃ R, unqD (l.drop p) (l.drop p).length 1 [] = R := ⟨_, rfl⟩
  rw [hR]
  have hdl : (l.drop p).length = l.length - p := by simp
  have HR := hide2 hR
  have HDL := hide2 hdl
  clear hR hdl
  obtain ⟨P1, hP1⟩ : ∃ P1, p + 1 = P1 := ⟨_, rfl⟩
  rw [hP1]
  go_enter Tryd.func71, Tryd.ntmps71
  go_wp2
  go_loopw [1, 6] (fun t v wr => ∃ (n k j a : Nat) (acc : List UInt8), j = p + k ∧ t = .int .i64 j ∧ R = unqD (l.drop p) n k acc ∧ l.length < n + j ∧ acc.length = a ∧ a < k ∧ j ≤ l.length ∧ wr.ownsRow w.heap.size 5 1 v a (vals (zL acc)) ∧ Below w.heap.size w wr) (fun t _ _ => l.length + 4 - (intOf t).toNat)
  case atStart => exact ⟨(l.drop p).length, 1, P1, 0, [], hP1.symm, rfl, HR.out.symm, by have := HDL.out; omega, rfl, by omega, by omega, World.ownsRow_nil _ _ _ _, Below.refl _ _⟩
  case round =>
    obtain ⟨n, k, j, a, acc, hjk, rfl, he, hn, hal, hak, hj, hown, hbel⟩ := hrel
    have HE := hide2 he
    have HO := hide2 hown
    have HB := hide2 hbel
    have HA := hide2 hal
    have HJK := hide2 hjk
    have hak2 : a < j := by omega
    have hn1 : 0 < n := by omega
    clear he hown hbel hal hjk
    have j0 : (0 : Int) ≤ j := by omega
    have hdk : (l.drop p)[k]? = l[j]? := by rw [List.getElem?_drop, HJK.out]
    have hdd : (l.drop p).drop k = l.drop j := by rw [List.drop_drop, HJK.out]
    have HDK := hide2 hdk
    have HDD := hide2 hdd
    clear hdk hdd
    obtain ⟨n, rfl⟩ : ∃ n', n = n' + 1 := ⟨n - 1, by omega⟩
    rcases ij : l[j]? with _ | c
    · have hl := len_none ij
      have hl' : ¬ (j : Int) < l.length := by omega
      have hl2 : (l.length : Int) ≤ j := by omega
      have HX : Hid (unqD (l.drop p) (n + 1) k acc = none) := by show _ = _; rw [unqD, HDK.out, ij]
      go_wp2
      refine bodyPost_ret (v := .tuple #[.string ⟨#[]⟩, .int .i64 (-1)]) (by simp [results, Tryd.results71, go_sem]) rfl ?_
      exact ⟨by rw [HE.out, HX.out]; rfl, HB.out⟩
    · have ej := ix_eq ij
      have hjl := ix_lt ij
      have hl' : (j : Int) < l.length := by omega
      have hl2 : ¬ (l.length : Int) ≤ j := by omega
      have lo := u8_lo c
      have hi := u8_hi c
      by_cases h1 : (c.toNat : Int) = 34
      · have HX : Hid (unqD (l.drop p) (n + 1) k acc = some (acc, k + 1)) := by show _ = _; rw [unqD, HDK.out, ij]; simp [h1]
        have hcv := str_row wr w.heap.size a _ acc HA.out HO.out
        go_wp2
        refine bodyPost_ret (v := .tuple #[.string ⟨acc.toArray⟩, .int .i64 (j + 1)]) (by simp [results, Tryd.results71, go_sem]) rfl ?_
        exact ⟨by rw [HE.out, HX.out]; simp [refE, HJK.out]; omega, HB.out⟩
      by_cases h2 : (c.toNat : Int) = 92
      · have HX : Hid (unqD (l.drop p) (n + 1) k acc = match escF (l.drop j) with | none => none | some (d, m) => unqD (l.drop p) n (k + m) (acc ++ [d])) := by show _ = _; rw [unqD, HDK.out, ij]; dsimp only; rw [if_neg h1, if_pos h2, HDD.out]; rcases escF (l.drop j) with _ | ⟨d, m⟩ <;> rfl
        rw [escF_at] at HX
        rcases ij1 : l[j + 1]? with _ | e
        · rw [ij1] at HX
          have hl3 := len_none ij1
          have hl4 : (l.length : Int) ≤ (j : Int) + 1 := by omega
          go_wp2
          refine bodyPost_ret (v := .tuple #[.string ⟨#[]⟩, .int .i64 (-1)]) (by simp [results, Tryd.results71, go_sem]) rfl ?_
          exact ⟨by rw [HE.out, HX.out]; rfl, HB.out⟩
        · rw [ij1] at HX
          dsimp only at HX
          have ej1 := ix_eq ij1
          have hj1 := ix_lt ij1
          have hl3 : ¬ (l.length : Int) ≤ (j : Int) + 1 := by omega
          have hl4 : (j : Int) + 1 < l.length := by omega
          have hl5 : ((j : Int) + 1).toNat = j + 1 := by omega
          have elo := u8_lo e
          have ehi := u8_hi e
          by_cases e1 : (e.toNat : Int) = 120
          · rw [if_neg (by omega), if_neg (by omega), if_neg (by omega), if_pos e1] at HX
            have dg2 := fun w => digit_ref l (j + 2) w hs (by omega)
            have dg3 := fun w => digit_ref l (j + 3) w hs (by omega)
            have cb2 : ((j + 2 : Nat) : Int) = (j : Int) + 2 := by omega
            have cb3 : ((j + 3 : Nat) : Int) = (j : Int) + 3 := by omega
            rw [cb2] at dg2
            rw [cb3] at dg3
            have bd2 := digF_bd l (j + 2)
            have bd3 := digF_bd l (j + 3)
            have lt3 := digF_lt l (j + 3)
            obtain ⟨d2, hd2⟩ : ∃ d, digF l (j + 2) = d := ⟨_, rfl⟩
            obtain ⟨d3, hd3⟩ : ∃ d, digF l (j + 3) = d := ⟨_, rfl⟩
            rw [hd2] at dg2 bd2 HX
            rw [hd3] at dg3 bd3 HX lt3
            clear hd2 hd3
            obtain ⟨bd20, bd21⟩ := bd2
            obtain ⟨bd30, bd31⟩ := bd3
            go_wp2_with fail
            refine (dg2 _).mono ?_
            rintro e' w' ⟨rfl, q2, hw'⟩
            go_wp2_with fail
            refine (dg3 _).mono ?_
            rintro e' w5 ⟨rfl, q3, hw5⟩
            have HO5 : Hid (w5.ownsRow w.heap.size 5 1 u6 a (vals (zL acc))) := own_blk HO.out (fun k hk => by rw [hw5]; rfl)
            have HB5 : Hid (Below w.heap.size w w5) := by
              rw [hw5]
              exact below_drewN (below_drewN HB.out _) _
            clear hw5 dg2 dg3
            by_cases n2 : d2 < 0
            · rw [if_neg (by omega)] at HX
              go_wp2
              refine bodyPost_ret (v := .tuple #[.string ⟨#[]⟩, .int .i64 (-1)]) (by simp [results, Tryd.results71, go_sem]) rfl ?_
              exact ⟨by rw [HE.out, HX.out]; rfl, HB5.out⟩
            by_cases n3 : d3 < 0
            · rw [if_neg (by omega)] at HX
              go_wp2
              refine bodyPost_ret (v := .tuple #[.string ⟨#[]⟩, .int .i64 (-1)]) (by simp [results, Tryd.results71, go_sem]) rfl ?_
              exact ⟨by rw [HE.out, HX.out]; rfl, HB5.out⟩
            rw [if_pos (by omega)] at HX
            dsimp only at HX
            have lt4 := lt3 (by omega)
            have HX1 := hide2 (hexB_nat d2 d3 (by omega) (by omega) (by omega) (by omega))
            clear lt3
            go_wp2_with (at_builtin; refine wpList_append_form _ rfl (.tmp 57) (.tmp 63) 22 rfl w.heap.size 5 i5 (.int .u8 0) 1 1 Tryd.underlying22 hi5 hz50 hz51 hz52 rfl (by decide) _ a (vals (zL acc)) rfl (HO5.out.alloc _) ⟨w5.heap.size, 0, none⟩ 1 1 (vals [16 * d2 + d3]) rfl rfl (World.news_of_block (heap_alloc_new w5 _)) (vals_one _) (by omega) (by unfold maxLen; omega) (by omega) (by have := HB5.out.size; simp; omega) ?_; intro g3 c3 w3 hown3 hgrow3; obtain ⟨O3, B3⟩ := app_more (new := [hexB d2 d3]) (by simp [zL, HX1.out]) HA.out rfl HO5.out HB5.out (Nat.le_refl _) hown3 hgrow3; clear hown3 hgrow3)
            go_roundw
            case rel => exact ⟨n, k + 4, j + 4, a + 1, acc ++ [hexB d2 d3], by have := HJK.out; omega, by go_num, by rw [HE.out, HX.out], by omega, by simp [HA.out], by omega, by omega, O3.out, B3.out⟩
            case measure => simp [intOf]; omega
          by_cases e2 : (e.toNat : Int) = 110
          · rw [if_neg (by omega), if_pos e2] at HX
            dsimp only at HX
            go_wp2_with (at_builtin; refine wpList_append_form _ rfl (.tmp 69) (.tmp 70) 22 rfl w.heap.size 5 i5 (.int .u8 0) 1 1 Tryd.underlying22 hi5 hz50 hz51 hz52 rfl (by decide) _ a (vals (zL acc)) rfl (HO.out.alloc _) ⟨wr.heap.size, 0, none⟩ 1 1 (vals [10]) rfl rfl (World.news_of_block (heap_alloc_new wr _)) (vals_one _) (by omega) (by unfold maxLen; omega) (by omega) (by have := HB.out.size; simp; omega) ?_; intro g3 c3 w3 hown3 hgrow3; obtain ⟨O3, B3⟩ := app_more (new := [10]) rfl HA.out rfl HO.out HB.out (Nat.le_refl _) hown3 hgrow3; clear hown3 hgrow3)
            go_roundw
            case rel => exact ⟨n, k + 2, j + 2, a + 1, acc ++ [10], by have := HJK.out; omega, by go_num, by rw [HE.out, HX.out], by omega, by simp [HA.out], by omega, by omega, O3.out, B3.out⟩
            case measure => simp [intOf]; omega
          by_cases e3 : (e.toNat : Int) = 116
          · rw [if_neg (by omega), if_neg e2, if_pos e3] at HX
            dsimp only at HX
            go_wp2_with (at_builtin; refine wpList_append_form _ rfl (.tmp 74) (.tmp 75) 22 rfl w.heap.size 5 i5 (.int .u8 0) 1 1 Tryd.underlying22 hi5 hz50 hz51 hz52 rfl (by decide) _ a (vals (zL acc)) rfl (HO.out.alloc _) ⟨wr.heap.size, 0, none⟩ 1 1 (vals [9]) rfl rfl (World.news_of_block (heap_alloc_new wr _)) (vals_one _) (by omega) (by unfold maxLen; omega) (by omega) (by have := HB.out.size; simp; omega) ?_; intro g3 c3 w3 hown3 hgrow3; obtain ⟨O3, B3⟩ := app_more (new := [9]) rfl HA.out rfl HO.out HB.out (Nat.le_refl _) hown3 hgrow3; clear hown3 hgrow3)
            go_roundw
            case rel => exact ⟨n, k + 2, j + 2, a + 1, acc ++ [9], by have := HJK.out; omega, by go_num, by rw [HE.out, HX.out], by omega, by simp [HA.out], by omega, by omega, O3.out, B3.out⟩
            case measure => simp [intOf]; omega
          by_cases e4 : (e.toNat : Int) = 34
          · rw [if_pos (.inl e4)] at HX
            have ec : e = 34 := UInt8.toNat_inj.1 (by show e.toNat = 34; omega)
            rw [ec] at HX
            dsimp only at HX
            go_wp2_with (at_builtin; refine wpList_append_form _ rfl (.tmp 83) (.tmp 85) 22 rfl w.heap.size 5 i5 (.int .u8 0) 1 1 Tryd.underlying22 hi5 hz50 hz51 hz52 rfl (by decide) _ a (vals (zL acc)) rfl (HO.out.alloc _) ⟨wr.heap.size, 0, none⟩ 1 1 (vals [34]) rfl rfl (World.news_of_block (heap_alloc_new wr _)) (vals_one _) (by omega) (by unfold maxLen; omega) (by omega) (by have := HB.out.size; simp; omega) ?_; intro g3 c3 w3 hown3 hgrow3; obtain ⟨O3, B3⟩ := app_more (new := [34]) rfl HA.out rfl HO.out HB.out (Nat.le_refl _) hown3 hgrow3; clear hown3 hgrow3)
            go_roundw
            case rel => exact ⟨n, k + 2, j + 2, a + 1, acc ++ [34], by have := HJK.out; omega, by go_num, by rw [HE.out, HX.out], by omega, by simp [HA.out], by omega, by omega, O3.out, B3.out⟩
            case measure => simp [intOf]; omega
          by_cases e5 : (e.toNat : Int) = 92
          · rw [if_pos (.inr e5)] at HX
            have ec : e = 92 := UInt8.toNat_inj.1 (by show e.toNat = 92; omega)
            rw [ec] at HX
            dsimp only at HX
            go_wp2_with (at_builtin; refine wpList_append_form _ rfl (.tmp 83) (.tmp 85) 22 rfl w.heap.size 5 i5 (.int .u8 0) 1 1 Tryd.underlying22 hi5 hz50 hz51 hz52 rfl (by decide) _ a (vals (zL acc)) rfl (HO.out.alloc _) ⟨wr.heap.size, 0, none⟩ 1 1 (vals [92]) rfl rfl (World.news_of_block (heap_alloc_new wr _)) (vals_one _) (by omega) (by unfold maxLen; omega) (by omega) (by have := HB.out.size; simp; omega) ?_; intro g3 c3 w3 hown3 hgrow3; obtain ⟨O3, B3⟩ := app_more (new := [92]) rfl HA.out rfl HO.out HB.out (Nat.le_refl _) hown3 hgrow3; clear hown3 hgrow3)
            go_roundw
            case rel => exact ⟨n, k + 2, j + 2, a + 1, acc ++ [92], by have := HJK.out; omega, by go_num, by rw [HE.out, HX.out], by omega, by simp [HA.out], by omega, by omega, O3.out, B3.out⟩
            case measure => simp [intOf]; omega
          rw [if_neg (by omega), if_neg e2, if_neg e3, if_neg e1] at HX
          dsimp only at HX
          have e4b : ((e.toNat : Int) == 34) = false := by rw [beq_eq_false_iff_ne]; exact e4
          have e5b : ((e.toNat : Int) == 92) = false := by rw [beq_eq_false_iff_ne]; exact e5
          have e45 : ¬ ((e.toNat : Int) = 34 ∨ (e.toNat : Int) = 92) := by omega
          go_wp2
          refine bodyPost_ret (v := .tuple #[.string ⟨#[]⟩, .int .i64 (-1)]) (by simp [results, Tryd.results71, go_sem]) rfl ?_
          exact ⟨by rw [HE.out, HX.out]; rfl, HB.out⟩
      · have HX : Hid (unqD (l.drop p) (n + 1) k acc = unqD (l.drop p) n (k + 1) (acc ++ [c])) := by show _ = _; rw [unqD, HDK.out, ij]; simp [h1, h2]
        go_wp2_with (at_builtin; refine wpList_append_form _ rfl (.tmp 24) (.tmp 28) 22 rfl w.heap.size 5 i5 (.int .u8 0) 1 1 Tryd.underlying22 hi5 hz50 hz51 hz52 rfl (by decide) _ a (vals (zL acc)) rfl (HO.out.alloc _) ⟨wr.heap.size, 0, none⟩ 1 1 (vals [(c.toNat : Int)]) rfl rfl (World.news_of_block (heap_alloc_new wr _)) (vals_one _) (by omega) (by unfold maxLen; omega) (by omega) (by have := HB.out.size; simp; omega) ?_; intro g3 c3 w3 hown3 hgrow3; obtain ⟨O3, B3⟩ := app_more (new := [c]) rfl HA.out rfl HO.out HB.out (Nat.le_refl _) hown3 hgrow3; clear hown3 hgrow3)
        go_roundw
        case rel => exact ⟨n, k + 1, j + 1, a + 1, acc ++ [c], by have := HJK.out; omega, by go_num, by rw [HE.out, HX.out], by omega, by simp [HA.out], by omega, by omega, O3.out, B3.out⟩
        case measure => simp [intOf]; omega
end Go.Proofs.YtjmgngocpokpgaaDoor
