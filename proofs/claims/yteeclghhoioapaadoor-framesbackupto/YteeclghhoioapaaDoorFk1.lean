/-
  FramesBack: the ways, one by one.
-/
import Derived.Test.YteeclghhoioapaaDoorFs
namespace Go.Proofs.YteeclghhoioapaaDoor
open Go.RowKit
set_option linter.unusedVariables false
set_option linter.unusedSimpArgs false
set_option maxRecDepth 100000
set_option maxHeartbeats 8000000 in
theorem fback1 (m : Ms) (a : Option Addr) (n cap : Nat) (zs : List Int) (c ER : Int) (w : World) (hT : Tab w) (hs : Sm m) (h : Bs w a n cap zs) (hn : cap ≤ 1048576) (hc : -9223372036854775808 ≤ c ∧ c ≤ 9223372036854775807) (ho : okM m = true) (hd : decM zs = (zeroM, 0, ER) ∧ ER ≠ 0) :
    Calls Tryd.prog 6 #[mv m, .slice a n cap, .int .i64 c] w fun e w' => e = .returned (.bool true) ∧ Below w.heap.size w w' := by
  have HO := hideL (fun w => own_any m w (by have := hs.2.1; unfold maxLen; omega) (by have := hs.2.2.1; unfold maxLen; omega))
  have HE := hideL (fun w h => encode_any m w h hs)
  have HFO := hideL (frm_octets m)
  have HFL := hideL (frm_small m)
  have HS := hideL (Fbs.start w m a n cap zs hT h)
  have HC := hideL hc
  have hcl : n ≤ cap := h.fits
  have e1 : frmE m = 0 := by unfold frmE; rw [ho]; rfl
  have e2 : frmB m = frame (payM m) := by unfold frmB; rw [ho]; rfl
  have HP := hideL (And.intro (payM_len m ho) (And.intro (dec_frame m zs ho) (frame_length (payM m))))
  have HD7 := hideL (fun k => dec_cut (payM m) k (by have := (payM_len m ho).2; omega))
  have HPL := hideL (fun w => plain_any m w)
  rw [e2] at HE HFO HFL
  obtain ⟨P, hP⟩ : ∃ P, payM m = P := ⟨_, rfl⟩
  rw [hP] at HE HFO HFL HP HD7
  obtain ⟨F, hF⟩ : ∃ F, frame P = F := ⟨_, rfl⟩
  rw [hF] at HE HFO HFL HP HD7
  obtain ⟨pm, hpm⟩ : ∃ pm, plainM m = pm := ⟨_, rfl⟩
  rw [hpm] at HP HPL
  clear hpm
  obtain ⟨pk, pn, pv, pf, po, pe, pt⟩ := pm
  have HQ := hideL (eq29 { kind := pk, name := pn, ver := pv, frm := pf, non := po, err := pe, text := pt })
  clear e2 hP hF
  rw [show (8 + (P.length : Int)) = (F.length : Int) by have := HP.out.2.2; omega] at HP
  rw [e1] at HE
  have HD := hideL hd.1
  have hne : ¬ ER = 0 := hd.2
  obtain ⟨kind, name, ver, frm, non, err, text⟩ := m
  have HH := hideL hn
  clear hT hs h hd ho e1 hn hc
  simp only [mv, mcs] at *
  go_enter Tryd.func6, Tryd.ntmps6
  go_upto_region 7 with (first
    | (go_at_call 22; have hq := HS; clear hq; refine (awake_any _ HS.out.tab).mono ?_; rintro e w1 ⟨rfl, hb⟩; have hS := HS.out.below hb; obtain ⟨c0, c1, c2, c3, c4, c5, c6⟩ := hS.hw.1.cs; have HS1 := hideL hS; clear hS hb HS)
    | (go_at_call 10; have hq := HS1; clear hq; refine (HO.out _).mono ?_; rintro e w2 ⟨rfl, hb⟩; have HS2 := hideL (HS1.out.below hb); clear hb HS1 c0 c1 c2 c3 c4 c5 c6)
    | (go_at_call 9; have hq := HS2; clear hq; refine (HE.out _ HS2.out.tab).mono ?_; rintro e w3 ⟨v3, rfl, hr, hb⟩; obtain ⟨ab, cb, rfl, hB, -⟩ := hr.bs HFO.out (by have := HFL.out; omega); have HB3 := hideL hB; have HS3 := hideL (HS2.out.below hb); clear hr hb hB HS2)
    | (go_at_call 12; have hq := HS3; clear hq; (first | (have hq := HL4; clear hq; fail) | skip); refine (lentE ab _ cb _ _ HB3.out (by have := HFL.out; omega)).mono ?_; rintro e w4 ⟨v4, rfl, hL⟩; have HL4 := hideL hL.row.2; have HR4 := hideL hL.row.1; clear hL)
    | (at_builtin; have hq := HL4; clear hq; refine wpList_append_bs rfl (.tmp 32) (.tmp 33) rfl w3.heap.size v4 _ rfl HR4.out a n cap zs rfl (HS3.out.below HL4.out).tl (by have := HFL.out; have := HH.out; omega) HL4.out.size ?_; intro v5 w5 hr5 hb5; have hbb := HL4.out.trans hb5; have HB5 := hideL (HB3.out.below hbb); have HS5 := hideL (HS3.out.below hbb); obtain ⟨a5, c5, rfl, hB5, -⟩ := hr5.bs (HFO.out.append HS3.out.tl.oct) (by have := HFL.out; have := HH.out; have := HS3.out.tl.len; rw [List.length_append]; omega); obtain ⟨n5, hn5⟩ : ∃ k, (F ++ zs).length = k := ⟨_, rfl⟩; rw [hn5] at hB5 ⊢; have HD5 := hideL hB5; clear hn5; clear HB3 HS3 HL4 HR4 hbb hb5 hr5 hB5)
    | (go_at_call 13; have hq := HD5; clear hq; refine (decode_any a5 n5 c5 _ _ HD5.out HS5.out.tab).mono ?_; rintro e w6 ⟨rfl, hb⟩; rw [HP.out.2.1]; simp only [mv]; have HB6 := hideL (HB5.out.below hb); have HS6 := hideL (HS5.out.below hb); clear hb HB5 HS5 HD5)
    | (go_at_call 23; have hq := HS6; clear hq; refine (round_any c F.length _ (by have := HP.out.2.2; omega) (by have := HFL.out; omega) HC.out.1 HC.out.2).mono ?_; rintro e wr ⟨k, hk, rfl, rfl⟩; have hk1 : (k : Int) < F.length := (by omega); have hk2 : (k : Int) ≤ cb := (by have := HB6.out.fits; omega); have HK := hideL hk; have HX := hideL (heap_alloc_new w6 (.cells (mcs { kind := pk, name := pn, ver := pv, frm := pf, non := po, err := pe, text := pt }).toArray 29)); have hb0 := (Below.refl w6.heap.size w6).alloc (Nat.le_refl _) (.cells (mcs { kind := pk, name := pn, ver := pv, frm := pf, non := po, err := pe, text := pt }).toArray 29); have HB7 := hideL (HB6.out.below hb0); have HS7 := hideL (HS6.out.below hb0); clear hk hb0 HB6 HS6)
    | (go_at_call 13; have hq := HS7; clear hq; have hB := HB7.out.take k (by have := HK.out; omega); refine (decode_any ab k cb _ _ hB HS7.out.tab).mono ?_; rintro e w8 ⟨rfl, hb⟩; rw [HD7.out k (by have := HK.out; have := HP.out.2.2; omega)]; simp only [mv, zeroM]; have HS8 := hideL (HS7.out.below hb); have HX8 := hideL ((hb.block _ (by simp)).trans HX.out); clear hB hb HB7 HS7 HX hk1 hk2))
  have hb9 := ((Below.refl w8.heap.size w8).alloc (Nat.le_refl _) (.cells #[.int .i64 0, .string ByteArray.empty, .int .i64 0, .int .i64 0, .int .i64 0, .int .i64 0, .string ByteArray.empty] 29)).drew
  have hS9 := HS8.out.below hb9
  have hX9 := (hb9.block _ (Array.getElem?_eq_some_iff.1 HX8.out).1).trans HX8.out
  obtain ⟨x0, x1, x2, x3, x4, x5, x6, -⟩ := cs7 hX9
  obtain ⟨c0, c1, c2, c3, c4, c5, c6⟩ := hS9.hw.1.cs
  refine wp_region_held_drew (S := (fun w' => w'.cell? ⟨w6.heap.size, 0, none⟩ = some (.int .i64 pk) ∧ w'.cell? ⟨w6.heap.size, 1, none⟩ = some (.string pn) ∧ w'.cell? ⟨w6.heap.size, 2, none⟩ = some (.int .i64 pv) ∧ w'.cell? ⟨w6.heap.size, 3, none⟩ = some (.int .i64 pf) ∧ w'.cell? ⟨w6.heap.size, 4, none⟩ = some (.int .i64 po) ∧ w'.cell? ⟨w6.heap.size, 5, none⟩ = some (.int .i64 pe) ∧ w'.cell? ⟨w6.heap.size, 6, none⟩ = some (.string pt) ∧ w'.cell? ⟨w.heap.size, 0, none⟩ = some (.int .i64 kind) ∧ w'.cell? ⟨w.heap.size, 1, none⟩ = some (.string name) ∧ w'.cell? ⟨w.heap.size, 2, none⟩ = some (.int .i64 ver) ∧ w'.cell? ⟨w.heap.size, 3, none⟩ = some (.int .i64 frm) ∧ w'.cell? ⟨w.heap.size, 4, none⟩ = some (.int .i64 non) ∧ w'.cell? ⟨w.heap.size, 5, none⟩ = some (.int .i64 err) ∧ w'.cell? ⟨w.heap.size, 6, none⟩ = some (.string text))) (by kernel_rfl) ⟨x0, x1, x2, x3, x4, x5, x6, c0, c1, c2, c3, c4, c5, c6⟩ (fun hHeld => ?_)
  clear hb9 hX9 HS8 HX8
  generalize hV : (w8.alloc (.cells #[.int .i64 0, .string ByteArray.empty, .int .i64 0, .int .i64 0, .int .i64 0, .int .i64 0, .string ByteArray.empty] 29)).drew = V at *
  clear hV
  have HS9 := hideL hS9
  clear hS9
  have he := HQ.out
  refine' wpAnyH_take (i := 0) (v := _) rfl (by kernel_rfl) (by kernel_rfl) (by kernel_rfl) (fun _ _ _ h => h) (Or.inl ⟨by rfl, ?_⟩) (by assumption) ?_; rotate_left
  · intro w hSw; (try dsimp only at hSw); go_simp <;> with_reducible rfl
  (try simp only [Act.put, List.getElem_toArray, List.getElem_cons_zero, List.getElem_cons_succ, List.setIfInBounds_toArray, List.set_cons_zero, List.set_cons_succ])
  refine' wpAnyH_take (i := 1) (v := _) rfl (by kernel_rfl) (by kernel_rfl) (by kernel_rfl) (fun _ _ _ h => h) (Or.inl ⟨by rfl, ?_⟩) (by assumption) ?_; rotate_left
  · intro w hSw; (try dsimp only at hSw); go_simp <;> with_reducible rfl
  (try simp only [Act.put, List.getElem_toArray, List.getElem_cons_zero, List.getElem_cons_succ, List.setIfInBounds_toArray, List.set_cons_zero, List.set_cons_succ])
  refine' wpAnyH_take (i := 2) (v := _) rfl (by kernel_rfl) (by kernel_rfl) (by kernel_rfl) (fun _ _ _ h => h) (Or.inl ⟨by rfl, ?_⟩) (by assumption) ?_; rotate_left
  · intro w hSw; (try dsimp only at hSw); go_simp <;> with_reducible rfl
  (try simp only [Act.put, List.getElem_toArray, List.getElem_cons_zero, List.getElem_cons_succ, List.setIfInBounds_toArray, List.set_cons_zero, List.set_cons_succ])
  refine' wpAnyH_take (i := 3) (v := _) rfl (by kernel_rfl) (by kernel_rfl) (by kernel_rfl) (fun _ _ _ h => h) (Or.inl ⟨by rfl, ?_⟩) (by assumption) ?_; rotate_left
  · intro w hSw; (try dsimp only at hSw); go_simp <;> with_reducible rfl
  (try simp only [Act.put, List.getElem_toArray, List.getElem_cons_zero, List.getElem_cons_succ, List.setIfInBounds_toArray, List.set_cons_zero, List.set_cons_succ])
  refine' wpAnyH_take (i := 4) (v := _) rfl (by kernel_rfl) (by kernel_rfl) (by kernel_rfl) (fun _ _ _ h => h) (Or.inl ⟨by rfl, ?_⟩) (by assumption) ?_; rotate_left
  · intro w hSw; (try dsimp only at hSw); go_simp <;> with_reducible rfl
  (try simp only [Act.put, List.getElem_toArray, List.getElem_cons_zero, List.getElem_cons_succ, List.setIfInBounds_toArray, List.set_cons_zero, List.set_cons_succ])
  refine' wpAnyH_take (i := 5) (v := _) rfl (by kernel_rfl) (by kernel_rfl) (by kernel_rfl) (fun _ _ _ h => h) (Or.inl ⟨by rfl, ?_⟩) (by assumption) ?_; rotate_left
  · intro w hSw; (try dsimp only at hSw); go_simp <;> with_reducible rfl
  (try simp only [Act.put, List.getElem_toArray, List.getElem_cons_zero, List.getElem_cons_succ, List.setIfInBounds_toArray, List.set_cons_zero, List.set_cons_succ])
  refine' wpAnyH_take (i := 6) (v := _) rfl (by kernel_rfl) (by kernel_rfl) (by kernel_rfl) (fun _ _ _ h => h) (Or.inl ⟨by rfl, ?_⟩) (by assumption) ?_; rotate_left
  · intro w hSw; (try dsimp only at hSw); go_simp <;> with_reducible rfl
  (try simp only [Act.put, List.getElem_toArray, List.getElem_cons_zero, List.getElem_cons_succ, List.setIfInBounds_toArray, List.set_cons_zero, List.set_cons_succ])
  refine' wpAnyH_take (i := 7) (v := _) rfl (by kernel_rfl) (by kernel_rfl) (by kernel_rfl) (fun _ _ _ h => h) (Or.inl ⟨by rfl, ?_⟩) (by assumption) ?_; rotate_left
  · intro w hSw; (try dsimp only at hSw); go_simp <;> with_reducible rfl
  (try simp only [Act.put, List.getElem_toArray, List.getElem_cons_zero, List.getElem_cons_succ, List.setIfInBounds_toArray, List.set_cons_zero, List.set_cons_succ])
  refine' wpAnyH_take (i := 8) (v := _) rfl (by kernel_rfl) (by kernel_rfl) (by kernel_rfl) (fun _ _ _ h => h) (Or.inl ⟨by rfl, ?_⟩) (by assumption) ?_; rotate_left
  · intro w hSw; (try dsimp only at hSw); go_simp <;> with_reducible rfl
  (try simp only [Act.put, List.getElem_toArray, List.getElem_cons_zero, List.getElem_cons_succ, List.setIfInBounds_toArray, List.set_cons_zero, List.set_cons_succ])
  refine' wpAnyH_take (i := 9) (v := _) rfl (by kernel_rfl) (by kernel_rfl) (by kernel_rfl) (fun _ _ _ h => h) (Or.inl ⟨by rfl, ?_⟩) (by assumption) ?_; rotate_left
  · intro w hSw; (try dsimp only at hSw); go_simp <;> with_reducible rfl
  (try simp only [Act.put, List.getElem_toArray, List.getElem_cons_zero, List.getElem_cons_succ, List.setIfInBounds_toArray, List.set_cons_zero, List.set_cons_succ])
  refine' wpAnyH_take (i := 10) (v := _) rfl (by kernel_rfl) (by kernel_rfl) (by kernel_rfl) (fun _ _ _ h => h) (Or.inl ⟨by rfl, ?_⟩) (by assumption) ?_; rotate_left
  · intro w hSw; (try dsimp only at hSw); go_simp <;> with_reducible rfl
  (try simp only [Act.put, List.getElem_toArray, List.getElem_cons_zero, List.getElem_cons_succ, List.setIfInBounds_toArray, List.set_cons_zero, List.set_cons_succ])
  refine wpAnyH_ready (rs := [11]) (by kernel_rfl) (by simp) ?_
  refine AllReadyH.cons rfl (fun K hK => ?_) AllReadyH.nil
  go_simp
  go_at_call 10
  refine (HO.out _).mono ?_
  rintro e wm ⟨rfl, hb⟩
  have hx0 := cell_of_below hb x0; clear x0; have x0 := hx0; clear hx0
  have hx1 := cell_of_below hb x1; clear x1; have x1 := hx1; clear hx1
  have hx2 := cell_of_below hb x2; clear x2; have x2 := hx2; clear hx2
  have hx3 := cell_of_below hb x3; clear x3; have x3 := hx3; clear hx3
  have hx4 := cell_of_below hb x4; clear x4; have x4 := hx4; clear hx4
  have hx5 := cell_of_below hb x5; clear x5; have x5 := hx5; clear hx5
  have hx6 := cell_of_below hb x6; clear x6; have x6 := hx6; clear hx6
  have hc0 := cell_of_below hb c0; clear c0; have c0 := hc0; clear hc0
  have hc1 := cell_of_below hb c1; clear c1; have c1 := hc1; clear hc1
  have hc2 := cell_of_below hb c2; clear c2; have c2 := hc2; clear hc2
  have hc3 := cell_of_below hb c3; clear c3; have c3 := hc3; clear hc3
  have hc4 := cell_of_below hb c4; clear c4; have c4 := hc4; clear hc4
  have hc5 := cell_of_below hb c5; clear c5; have c5 := hc5; clear hc5
  have hc6 := cell_of_below hb c6; clear c6; have c6 := hc6; clear hc6
  have HSm := hideL (HS9.out.below hb); clear hb HS9; have HS9 := HSm; clear HSm
  go_simp
  refine hK.out _ _ ⟨x0, x1, x2, x3, x4, x5, x6, c0, c1, c2, c3, c4, c5, c6⟩ (fun hHeld => ?_)
  clear hK K
  (try simp only [Act.put, List.getElem_toArray, List.getElem_cons_zero, List.getElem_cons_succ, List.setIfInBounds_toArray, List.set_cons_zero, List.set_cons_succ])
  refine wpAnyH_ready (rs := [12]) (by kernel_rfl) (by simp) ?_
  refine AllReadyH.cons rfl (fun K hK => ?_) AllReadyH.nil
  go_simp
  go_at_call 24
  refine (HPL.out _).mono ?_
  rintro e wn ⟨rfl, hb⟩
  have hx0 := cell_of_below hb x0; clear x0; have x0 := hx0; clear hx0
  have hx1 := cell_of_below hb x1; clear x1; have x1 := hx1; clear hx1
  have hx2 := cell_of_below hb x2; clear x2; have x2 := hx2; clear hx2
  have hx3 := cell_of_below hb x3; clear x3; have x3 := hx3; clear hx3
  have hx4 := cell_of_below hb x4; clear x4; have x4 := hx4; clear hx4
  have hx5 := cell_of_below hb x5; clear x5; have x5 := hx5; clear hx5
  have hx6 := cell_of_below hb x6; clear x6; have x6 := hx6; clear hx6
  have hc0 := cell_of_below hb c0; clear c0; have c0 := hc0; clear hc0
  have hc1 := cell_of_below hb c1; clear c1; have c1 := hc1; clear hc1
  have hc2 := cell_of_below hb c2; clear c2; have c2 := hc2; clear hc2
  have hc3 := cell_of_below hb c3; clear c3; have c3 := hc3; clear hc3
  have hc4 := cell_of_below hb c4; clear c4; have c4 := hc4; clear hc4
  have hc5 := cell_of_below hb c5; clear c5; have c5 := hc5; clear hc5
  have hc6 := cell_of_below hb c6; clear c6; have c6 := hc6; clear hc6
  have HSm := hideL (HS9.out.below hb); clear hb HS9; have HS9 := HSm; clear HSm
  go_simp
  refine hK.out _ _ ⟨x0, x1, x2, x3, x4, x5, x6, c0, c1, c2, c3, c4, c5, c6⟩ (fun hHeld => ?_)
  clear hK K
  (try simp only [Act.put, List.getElem_toArray, List.getElem_cons_zero, List.getElem_cons_succ, List.setIfInBounds_toArray, List.set_cons_zero, List.set_cons_succ])
  refine' wpAnyH_take (i := 13) (v := _) rfl (by kernel_rfl) (by kernel_rfl) (by kernel_rfl) (fun _ _ _ h => h) (Or.inl ⟨by rfl, ?_⟩) (by assumption) ?_; rotate_left
  · intro w hSw; (try dsimp only at hSw); go_simp <;> with_reducible rfl
  (try simp only [Act.put, List.getElem_toArray, List.getElem_cons_zero, List.getElem_cons_succ, List.setIfInBounds_toArray, List.set_cons_zero, List.set_cons_succ])
  refine' wpAnyH_take (i := 14) (v := _) rfl (by kernel_rfl) (by kernel_rfl) (by kernel_rfl) (fun _ _ _ h => h) (Or.inl ⟨by rfl, ?_⟩) (by assumption) ?_; rotate_left
  · intro w hSw; (try dsimp only at hSw); go_simp <;> with_reducible rfl
  (try simp only [Act.put, List.getElem_toArray, List.getElem_cons_zero, List.getElem_cons_succ, List.setIfInBounds_toArray, List.set_cons_zero, List.set_cons_succ])
  refine' wpAnyH_take (i := 15) (v := _) rfl (by kernel_rfl) (by kernel_rfl) (by kernel_rfl) (fun _ _ _ h => h) (Or.inl ⟨by rfl, ?_⟩) (by assumption) ?_; rotate_left
  · intro w hSw; (try dsimp only at hSw); go_simp <;> with_reducible rfl
  (try simp only [Act.put, List.getElem_toArray, List.getElem_cons_zero, List.getElem_cons_succ, List.setIfInBounds_toArray, List.set_cons_zero, List.set_cons_succ])
  refine' wpAnyH_take (i := 16) (v := _) rfl (by kernel_rfl) (by kernel_rfl) (by kernel_rfl) (fun _ _ _ h => h) (Or.inl ⟨by rfl, ?_⟩) (by assumption) ?_; rotate_left
  · intro w hSw; (try dsimp only at hSw); go_simp <;> with_reducible rfl
  (try simp only [Act.put, List.getElem_toArray, List.getElem_cons_zero, List.getElem_cons_succ, List.setIfInBounds_toArray, List.set_cons_zero, List.set_cons_succ])
  refine' wpAnyH_take (i := 17) (v := _) rfl (by kernel_rfl) (by kernel_rfl) (by kernel_rfl) (fun _ _ _ h => h) (Or.inl ⟨by rfl, ?_⟩) (by assumption) ?_; rotate_left
  · intro w hSw; (try dsimp only at hSw); go_simp <;> with_reducible rfl
  (try simp only [Act.put, List.getElem_toArray, List.getElem_cons_zero, List.getElem_cons_succ, List.setIfInBounds_toArray, List.set_cons_zero, List.set_cons_succ])
  refine' wpAnyH_take (i := 18) (v := _) rfl (by kernel_rfl) (by kernel_rfl) (by kernel_rfl) (fun _ _ _ h => h) (Or.inl ⟨by rfl, ?_⟩) (by assumption) ?_; rotate_left
  · intro w hSw; (try dsimp only at hSw); go_simp <;> with_reducible rfl
  (try simp only [Act.put, List.getElem_toArray, List.getElem_cons_zero, List.getElem_cons_succ, List.setIfInBounds_toArray, List.set_cons_zero, List.set_cons_succ])
  refine wpAnyH_done (by kernel_rfl) ?_ _
  clear hHeld x0 x1 x2 x3 x4 x5 x6 c0 c1 c2 c3 c4 c5 c6 he
  go_wp2_with (first
    | (go_at_call 12; have hq := HS9; clear hq; refine (lentE a n cap zs _ HS9.out.tl (by have := HH.out; have := HS9.out.tl.fits; omega)).mono ?_; rintro e wq ⟨vq, rfl, hL⟩; obtain ⟨aq, cq, rfl, hB, -⟩ := hL.row.1.bs HS9.out.tl.oct (by have := HS9.out.tl.len; have := HS9.out.tl.small; omega); have hln := HS9.out.tl.len; rw [hln] at hB ⊢; have HBq := hideL hB; have HSq := hideL (HS9.out.below hL.row.2); clear hL hB hln HS9)
    | (go_at_call 13; have hq := HSq; clear hq; refine (decode_any aq n cq zs _ HBq.out HSq.out.tab).mono ?_; rintro e wy ⟨rfl, hb⟩; rw [HD.out]; simp only [mv, zeroM]; have HSy := hideL (HSq.out.below hb); clear hb HSq HBq))
  go_ret
  exact ⟨rfl, (HSy.out.alloc _).hw.2.1⟩
end Go.Proofs.YteeclghhoioapaaDoor
