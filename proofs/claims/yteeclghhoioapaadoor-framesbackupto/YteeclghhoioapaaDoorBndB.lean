import Derived.Test.YteeclghhoioapaaDoorFs
import Derived.Test.YteeclghhoioapaaDoorFk1
import Derived.Test.YteeclghhoioapaaDoorFk2
import Derived.Test.YteeclghhoioapaaDoorOms
import Derived.Test.YteeclghhoioapaaDoorCards
import Derived.Test.YteeclghhoioapaaDoorTie
import Derived.SevenTiedAt
import Derived.Deep.DeepHandedRow
/-
  A message that was read has sizes that may come in.
-/
namespace Go.Proofs.YteeclghhoioapaaDoor
open Go.RowKit
set_option linter.unusedVariables false
set_option linter.unusedSimpArgs false
theorem plain_sm (m : Ms) (h : okM m = true) (hp : plainM m = m) : Sm m := by
  obtain ⟨kind, name, ver, frm, non, err, text⟩ := m
  have e0 : (ByteArray.empty).size = 0 := rfl
  rcases kinds_of _ h with k | k | k | k | k <;> (simp only at k; subst k)
  · have h1 := num_bd _ (okM1 rfl h)
    have hO : okM { kind := 1, name := name, ver := ver, frm := frm, non := non, err := err, text := text } = (decide (1 ≤ name.size ∧ name.size ≤ 64) && num ver) := rfl
    rw [hO] at h; simp only [Bool.and_eq_true, decide_eq_true_eq] at h
    have hP : plainM { kind := 1, name := name, ver := ver, frm := frm, non := non, err := err, text := text } = { kind := 1, name := name, ver := ver } := rfl
    rw [hP] at hp
    injection hp with _ _ _ a b c d
    subst a b c d
    simp only at h1
    refine ⟨by simp, ?_, ?_, ?_, ?_, ?_, ?_⟩ <;> first | (show _ ∧ _; simp; done) | (show _ ∧ _; simp only; omega) | (show _ ≤ _; simp only [e0]; omega)
  · obtain ⟨q1, q2, q3⟩ := okM2 rfl h
    have h1 := num_bd _ q1; have h2 := num_bd _ q2; have h3 := num_bd _ q3
    have hO : okM { kind := 2, name := name, ver := ver, frm := frm, non := non, err := err, text := text } = (num non && num frm && num ver && decide (text.size ≤ 65536)) := rfl
    rw [hO] at h; simp only [Bool.and_eq_true, decide_eq_true_eq] at h
    have hP : plainM { kind := 2, name := name, ver := ver, frm := frm, non := non, err := err, text := text } = { kind := 2, ver := ver, frm := frm, non := non, text := text } := rfl
    rw [hP] at hp
    injection hp with _ a _ _ _ b _
    subst a b
    simp only at h1 h2 h3
    refine ⟨by simp, ?_, ?_, ?_, ?_, ?_, ?_⟩ <;> first | (show _ ∧ _; simp; done) | (show _ ∧ _; simp only; omega) | (show _ ≤ _; simp only [e0]; omega)
  · obtain ⟨q1, q3⟩ := okM3 rfl h
    have h1 := num_bd _ q1; have h3 := num_bd _ q3
    have hP : plainM { kind := 3, name := name, ver := ver, frm := frm, non := non, err := err, text := text } = { kind := 3, ver := ver, non := non } := rfl
    rw [hP] at hp
    injection hp with _ a _ b _ c d
    subst a b c d
    simp only at h1 h3
    refine ⟨by simp, ?_, ?_, ?_, ?_, ?_, ?_⟩ <;> first | (show _ ∧ _; simp; done) | (show _ ∧ _; simp only; omega) | (show _ ≤ _; simp only [e0]; omega)
  · obtain ⟨q1, q3, q4⟩ := okM4 rfl h
    have h1 := num_bd _ q1; have h3 := num_bd _ q3
    have hO : okM { kind := 4, name := name, ver := ver, frm := frm, non := non, err := err, text := text } = (num non && num ver && decide (1 ≤ err ∧ err ≤ 65535)) := rfl
    rw [hO] at h; simp only [Bool.and_eq_true, decide_eq_true_eq] at h
    have hP : plainM { kind := 4, name := name, ver := ver, frm := frm, non := non, err := err, text := text } = { kind := 4, ver := ver, non := non, err := err } := rfl
    rw [hP] at hp
    injection hp with _ a _ b _ _ d
    subst a b d
    simp only at h1 h3
    refine ⟨by simp, ?_, ?_, ?_, ?_, ?_, ?_⟩ <;> first | (show _ ∧ _; simp; done) | (show _ ∧ _; simp only; omega) | (show _ ≤ _; simp only [e0]; omega)
  · have h1 := num_bd _ (okM5 rfl h)
    have hP : plainM { kind := 5, name := name, ver := ver, frm := frm, non := non, err := err, text := text } = { kind := 5, non := non } := rfl
    rw [hP] at hp
    injection hp with _ a b c _ d e
    subst a b c d e
    simp only at h1
    refine ⟨by simp, ?_, ?_, ?_, ?_, ?_, ?_⟩ <;> first | (show _ ∧ _; simp; done) | (show _ ∧ _; simp only; omega) | (show _ ≤ _; simp only [e0]; omega)
end Go.Proofs.YteeclghhoioapaaDoor

/-
  FramesBack: the ways, one by one.
-/
namespace Go.Proofs.YteeclghhoioapaaDoor
open Go.RowKit
set_option linter.unusedVariables false
set_option linter.unusedSimpArgs false
set_option maxRecDepth 100000
set_option maxHeartbeats 8000000 in
theorem fback3 (m : Ms) (a : Option Addr) (n cap : Nat) (zs : List Int) (c : Int) (w : World) (hT : Tab w) (hs : Sm m) (h : Bs w a n cap zs) (hn : cap ≤ 1048576) (hc : -9223372036854775808 ≤ c ∧ c ≤ 9223372036854775807) (ho : okM m = true) (hd : (decM zs).2.2 = 0) :
    Calls Tryd.prog 6 #[mv m, .slice a n cap, .int .i64 c] w fun e w' => e = .returned (.bool true) ∧ Below w.heap.size w w' := by
  have HO := hideL (fun w => own_any m w (by have := hs.2.1; unfold maxLen; omega) (by have := hs.2.2.1; unfold maxLen; omega))
  have HE := hideL (fun w h => encode_any m w h hs)
  have HFO := hideL (frm_octets m)
  have HFL := hideL (frm_small m)
  have HS := hideL (Fbs.start w m a n cap zs hT h)
  have HC := hideL hc
  have hcl : n ≤ cap := h.fits
  have e1 : frmE m = 0 := by unfold frmE; rw [ho]; rfl
  have e2 : frmB m = frame (payM m) := by unfold frmB; rw [ho]; rfl
  have HP := hideL (And.intro (payM_len m ho) (And.intro (dec_frame m zs ho) (frame_length (payM m))))
  have HD7 := hideL (fun k => dec_cut (payM m) k (by have := (payM_len m ho).2; omega))
  have HPL := hideL (fun w => plain_any m w)
  rw [e2] at HE HFO HFL
  obtain ⟨P, hP⟩ : ∃ P, payM m = P := ⟨_, rfl⟩
  rw [hP] at HE HFO HFL HP HD7
  obtain ⟨F, hF⟩ : ∃ F, frame P = F := ⟨_, rfl⟩
  rw [hF] at HE HFO HFL HP HD7
  obtain ⟨pm, hpm⟩ : ∃ pm, plainM m = pm := ⟨_, rfl⟩
  rw [hpm] at HP HPL
  clear hpm
  obtain ⟨pk, pn, pv, pf, po, pe, pt⟩ := pm
  have HQ := hideL (eq29 { kind := pk, name := pn, ver := pv, frm := pf, non := po, err := pe, text := pt })
  clear e2 hP hF
  rw [show (8 + (P.length : Int)) = (F.length : Int) by have := HP.out.2.2; omega] at HP
  rw [e1] at HE
  obtain ⟨b1, b2, b3, b4, b5, b6, b7⟩ := dec_back zs hd
  have hlz := h.len
  have hsy : Sm (decM zs).1 := plain_sm _ b3 b4
  have HEY := hideL (fun w h => encode_any (decM zs).1 w h hsy)
  have HYO := hideL (frm_octets (decM zs).1)
  have HYL := hideL (frm_small (decM zs).1)
  have y1 : frmE (decM zs).1 = 0 := by unfold frmE; rw [b3]; rfl
  have y2 : frmB (decM zs).1 = zs.take (8 + lenM zs) := by unfold frmB; rw [b3]; exact b6
  rw [y1, y2] at HEY
  rw [y2] at HYO HYL
  have HPY := hideL (fun w => plain_any (decM zs).1 w)
  rw [b4] at HPY
  have HQY := hideL (eq29 (decM zs).1)
  have HDE : Hid (decM zs = ((decM zs).1, 8 + (lenM zs : Int), 0)) := by show _ = _; rw [← b7, ← hd]
  obtain ⟨N, hN⟩ : ∃ N, 8 + lenM zs = N := ⟨_, rfl⟩
  have hNI : 8 + (lenM zs : Int) = (N : Int) := by omega
  have hNn : (N : Int) ≤ n := by omega
  have hNc : (N : Int) ≤ cap := by omega
  rw [hNI] at HDE
  rw [hN] at HEY HYO HYL
  obtain ⟨ym, hym⟩ : ∃ ym, (decM zs).1 = ym := ⟨_, rfl⟩
  rw [hym] at HEY HPY HQY HDE
  have HTL : Hid ((zs.take N).length = N) := by show _ = _; rw [List.length_take]; omega
  have hNn' : N ≤ n := by omega
  have HNN := hideL hNn'
  clear b1 b2 b3 b4 b5 b6 b7 y1 y2 hN hNI hsy hym hlz hNn'
  obtain ⟨yk, yn, yv, yf, yo, ye, yt⟩ := ym
  obtain ⟨kind, name, ver, frm, non, err, text⟩ := m
  have HH := hideL hn
  clear hT hs h hd ho e1 hn hc
  simp only [mv, mcs] at *
  go_enter Tryd.func6, Tryd.ntmps6
  go_upto_region 7 with (first
    | (go_at_call 22; have hq := HS; clear hq; refine (awake_any _ HS.out.tab).mono ?_; rintro e w1 ⟨rfl, hb⟩; have hS := HS.out.below hb; obtain ⟨c0, c1, c2, c3, c4, c5, c6⟩ := hS.hw.1.cs; have HS1 := hideL hS; clear hS hb HS)
    | (go_at_call 10; have hq := HS1; clear hq; refine (HO.out _).mono ?_; rintro e w2 ⟨rfl, hb⟩; have HS2 := hideL (HS1.out.below hb); clear hb HS1 c0 c1 c2 c3 c4 c5 c6)
    | (go_at_call 9; have hq := HS2; clear hq; refine (HE.out _ HS2.out.tab).mono ?_; rintro e w3 ⟨v3, rfl, hr, hb⟩; obtain ⟨ab, cb, rfl, hB, -⟩ := hr.bs HFO.out (by have := HFL.out; omega); have HB3 := hideL hB; have HS3 := hideL (HS2.out.below hb); clear hr hb hB HS2)
    | (go_at_call 12; have hq := HS3; clear hq; (first | (have hq := HL4; clear hq; fail) | skip); refine (lentE ab _ cb _ _ HB3.out (by have := HFL.out; omega)).mono ?_; rintro e w4 ⟨v4, rfl, hL⟩; have HL4 := hideL hL.row.2; have HR4 := hideL hL.row.1; clear hL)
    | (at_builtin; have hq := HL4; clear hq; refine wpList_append_bs rfl (.tmp 32) (.tmp 33) rfl w3.heap.size v4 _ rfl HR4.out a n cap zs rfl (HS3.out.below HL4.out).tl (by have := HFL.out; have := HH.out; omega) HL4.out.size ?_; intro v5 w5 hr5 hb5; have hbb := HL4.out.trans hb5; have HB5 := hideL (HB3.out.below hbb); have HS5 := hideL (HS3.out.below hbb); obtain ⟨a5, c5, rfl, hB5, -⟩ := hr5.bs (HFO.out.append HS3.out.tl.oct) (by have := HFL.out; have := HH.out; have := HS3.out.tl.len; rw [List.length_append]; omega); obtain ⟨n5, hn5⟩ : ∃ k, (F ++ zs).length = k := ⟨_, rfl⟩; rw [hn5] at hB5 ⊢; have HD5 := hideL hB5; clear hn5; clear HB3 HS3 HL4 HR4 hbb hb5 hr5 hB5)
    | (go_at_call 13; have hq := HD5; clear hq; refine (decode_any a5 n5 c5 _ _ HD5.out HS5.out.tab).mono ?_; rintro e w6 ⟨rfl, hb⟩; rw [HP.out.2.1]; simp only [mv]; have HB6 := hideL (HB5.out.below hb); have HS6 := hideL (HS5.out.below hb); clear hb HB5 HS5 HD5)
    | (go_at_call 23; have hq := HS6; clear hq; refine (round_any c F.length _ (by have := HP.out.2.2; omega) (by have := HFL.out; omega) HC.out.1 HC.out.2).mono ?_; rintro e wr ⟨k, hk, rfl, rfl⟩; have hk1 : (k : Int) < F.length := (by omega); have hk2 : (k : Int) ≤ cb := (by have := HB6.out.fits; omega); have HK := hideL hk; have HX := hideL (heap_alloc_new w6 (.cells (mcs { kind := pk, name := pn, ver := pv, frm := pf, non := po, err := pe, text := pt }).toArray 29)); have hb0 := (Below.refl w6.heap.size w6).alloc (Nat.le_refl _) (.cells (mcs { kind := pk, name := pn, ver := pv, frm := pf, non := po, err := pe, text := pt }).toArray 29); have HB7 := hideL (HB6.out.below hb0); have HS7 := hideL (HS6.out.below hb0); clear hk hb0 HB6 HS6)
    | (go_at_call 13; have hq := HS7; clear hq; have hB := HB7.out.take k (by have := HK.out; omega); refine (decode_any ab k cb _ _ hB HS7.out.tab).mono ?_; rintro e w8 ⟨rfl, hb⟩; rw [HD7.out k (by have := HK.out; have := HP.out.2.2; omega)]; simp only [mv, zeroM]; have HS8 := hideL (HS7.out.below hb); have HX8 := hideL ((hb.block _ (by simp)).trans HX.out); clear hB hb HB7 HS7 HX hk1 hk2))
  have hb9 := ((Below.refl w8.heap.size w8).alloc (Nat.le_refl _) (.cells #[.int .i64 0, .string ByteArray.empty, .int .i64 0, .int .i64 0, .int .i64 0, .int .i64 0, .string ByteArray.empty] 29)).drew
  have hS9 := HS8.out.below hb9
  have hX9 := (hb9.block _ (Array.getElem?_eq_some_iff.1 HX8.out).1).trans HX8.out
  obtain ⟨x0, x1, x2, x3, x4, x5, x6, -⟩ := cs7 hX9
  obtain ⟨c0, c1, c2, c3, c4, c5, c6⟩ := hS9.hw.1.cs
  refine wp_region_held_drew (S := (fun w' => w'.cell? ⟨w6.heap.size, 0, none⟩ = some (.int .i64 pk) ∧ w'.cell? ⟨w6.heap.size, 1, none⟩ = some (.string pn) ∧ w'.cell? ⟨w6.heap.size, 2, none⟩ = some (.int .i64 pv) ∧ w'.cell? ⟨w6.heap.size, 3, none⟩ = some (.int .i64 pf) ∧ w'.cell? ⟨w6.heap.size, 4, none⟩ = some (.int .i64 po) ∧ w'.cell? ⟨w6.heap.size, 5, none⟩ = some (.int .i64 pe) ∧ w'.cell? ⟨w6.heap.size, 6, none⟩ = some (.string pt) ∧ w'.cell? ⟨w.heap.size, 0, none⟩ = some (.int .i64 kind) ∧ w'.cell? ⟨w.heap.size, 1, none⟩ = some (.string name) ∧ w'.cell? ⟨w.heap.size, 2, none⟩ = some (.int .i64 ver) ∧ w'.cell? ⟨w.heap.size, 3, none⟩ = some (.int .i64 frm) ∧ w'.cell? ⟨w.heap.size, 4, none⟩ = some (.int .i64 non) ∧ w'.cell? ⟨w.heap.size, 5, none⟩ = some (.int .i64 err) ∧ w'.cell? ⟨w.heap.size, 6, none⟩ = some (.string text))) (by kernel_rfl) ⟨x0, x1, x2, x3, x4, x5, x6, c0, c1, c2, c3, c4, c5, c6⟩ (fun hHeld => ?_)
  clear hb9 hX9 HS8 HX8
  generalize hV : (w8.alloc (.cells #[.int .i64 0, .string ByteArray.empty, .int .i64 0, .int .i64 0, .int .i64 0, .int .i64 0, .string ByteArray.empty] 29)).drew = V at *
  clear hV
  have HS9 := hideL hS9
  clear hS9
  have he := HQ.out
  refine' wpAnyH_take (i := 0) (v := _) rfl (by kernel_rfl) (by kernel_rfl) (by kernel_rfl) (fun _ _ _ h => h) (Or.inl ⟨by rfl, ?_⟩) (by assumption) ?_; rotate_left
  · intro w hSw; (try dsimp only at hSw); go_simp <;> with_reducible rfl
  (try simp only [Act.put, List.getElem_toArray, List.getElem_cons_zero, List.getElem_cons_succ, List.setIfInBounds_toArray, List.set_cons_zero, List.set_cons_succ])
  refine' wpAnyH_take (i := 1) (v := _) rfl (by kernel_rfl) (by kernel_rfl) (by kernel_rfl) (fun _ _ _ h => h) (Or.inl ⟨by rfl, ?_⟩) (by assumption) ?_; rotate_left
  · intro w hSw; (try dsimp only at hSw); go_simp <;> with_reducible rfl
  (try simp only [Act.put, List.getElem_toArray, List.getElem_cons_zero, List.getElem_cons_succ, List.setIfInBounds_toArray, List.set_cons_zero, List.set_cons_succ])
  refine' wpAnyH_take (i := 2) (v := _) rfl (by kernel_rfl) (by kernel_rfl) (by kernel_rfl) (fun _ _ _ h => h) (Or.inl ⟨by rfl, ?_⟩) (by assumption) ?_; rotate_left
  · intro w hSw; (try dsimp only at hSw); go_simp <;> with_reducible rfl
  (try simp only [Act.put, List.getElem_toArray, List.getElem_cons_zero, List.getElem_cons_succ, List.setIfInBounds_toArray, List.set_cons_zero, List.set_cons_succ])
  refine' wpAnyH_take (i := 3) (v := _) rfl (by kernel_rfl) (by kernel_rfl) (by kernel_rfl) (fun _ _ _ h => h) (Or.inl ⟨by rfl, ?_⟩) (by assumption) ?_; rotate_left
  · intro w hSw; (try dsimp only at hSw); go_simp <;> with_reducible rfl
  (try simp only [Act.put, List.getElem_toArray, List.getElem_cons_zero, List.getElem_cons_succ, List.setIfInBounds_toArray, List.set_cons_zero, List.set_cons_succ])
  refine' wpAnyH_take (i := 4) (v := _) rfl (by kernel_rfl) (by kernel_rfl) (by kernel_rfl) (fun _ _ _ h => h) (Or.inl ⟨by rfl, ?_⟩) (by assumption) ?_; rotate_left
  · intro w hSw; (try dsimp only at hSw); go_simp <;> with_reducible rfl
  (try simp only [Act.put, List.getElem_toArray, List.getElem_cons_zero, List.getElem_cons_succ, List.setIfInBounds_toArray, List.set_cons_zero, List.set_cons_succ])
  refine' wpAnyH_take (i := 5) (v := _) rfl (by kernel_rfl) (by kernel_rfl) (by kernel_rfl) (fun _ _ _ h => h) (Or.inl ⟨by rfl, ?_⟩) (by assumption) ?_; rotate_left
  · intro w hSw; (try dsimp only at hSw); go_simp <;> with_reducible rfl
  (try simp only [Act.put, List.getElem_toArray, List.getElem_cons_zero, List.getElem_cons_succ, List.setIfInBounds_toArray, List.set_cons_zero, List.set_cons_succ])
  refine' wpAnyH_take (i := 6) (v := _) rfl (by kernel_rfl) (by kernel_rfl) (by kernel_rfl) (fun _ _ _ h => h) (Or.inl ⟨by rfl, ?_⟩) (by assumption) ?_; rotate_left
  · intro w hSw; (try dsimp only at hSw); go_simp <;> with_reducible rfl
  (try simp only [Act.put, List.getElem_toArray, List.getElem_cons_zero, List.getElem_cons_succ, List.setIfInBounds_toArray, List.set_cons_zero, List.set_cons_succ])
  refine' wpAnyH_take (i := 7) (v := _) rfl (by kernel_rfl) (by kernel_rfl) (by kernel_rfl) (fun _ _ _ h => h) (Or.inl ⟨by rfl, ?_⟩) (by assumption) ?_; rotate_left
  · intro w hSw; (try dsimp only at hSw); go_simp <;> with_reducible rfl
  (try simp only [Act.put, List.getElem_toArray, List.getElem_cons_zero, List.getElem_cons_succ, List.setIfInBounds_toArray, List.set_cons_zero, List.set_cons_succ])
  refine' wpAnyH_take (i := 8) (v := _) rfl (by kernel_rfl) (by kernel_rfl) (by kernel_rfl) (fun _ _ _ h => h) (Or.inl ⟨by rfl, ?_⟩) (by assumption) ?_; rotate_left
  · intro w hSw; (try dsimp only at hSw); go_simp <;> with_reducible rfl
  (try simp only [Act.put, List.getElem_toArray, List.getElem_cons_zero, List.getElem_cons_succ, List.setIfInBounds_toArray, List.set_cons_zero, List.set_cons_succ])
  refine' wpAnyH_take (i := 9) (v := _) rfl (by kernel_rfl) (by kernel_rfl) (by kernel_rfl) (fun _ _ _ h => h) (Or.inl ⟨by rfl, ?_⟩) (by assumption) ?_; rotate_left
  · intro w hSw; (try dsimp only at hSw); go_simp <;> with_reducible rfl
  (try simp only [Act.put, List.getElem_toArray, List.getElem_cons_zero, List.getElem_cons_succ, List.setIfInBounds_toArray, List.set_cons_zero, List.set_cons_succ])
  refine' wpAnyH_take (i := 10) (v := _) rfl (by kernel_rfl) (by kernel_rfl) (by kernel_rfl) (fun _ _ _ h => h) (Or.inl ⟨by rfl, ?_⟩) (by assumption) ?_; rotate_left
  · intro w hSw; (try dsimp only at hSw); go_simp <;> with_reducible rfl
  (try simp only [Act.put, List.getElem_toArray, List.getElem_cons_zero, List.getElem_cons_succ, List.setIfInBounds_toArray, List.set_cons_zero, List.set_cons_succ])
  refine wpAnyH_ready (rs := [11]) (by kernel_rfl) (by simp) ?_
  refine AllReadyH.cons rfl (fun K hK => ?_) AllReadyH.nil
  go_simp
  go_at_call 10
  refine (HO.out _).mono ?_
  rintro e wm ⟨rfl, hb⟩
  have hx0 := cell_of_below hb x0; clear x0; have x0 := hx0; clear hx0
  have hx1 := cell_of_below hb x1; clear x1; have x1 := hx1; clear hx1
  have hx2 := cell_of_below hb x2; clear x2; have x2 := hx2; clear hx2
  have hx3 := cell_of_below hb x3; clear x3; have x3 := hx3; clear hx3
  have hx4 := cell_of_below hb x4; clear x4; have x4 := hx4; clear hx4
  have hx5 := cell_of_below hb x5; clear x5; have x5 := hx5; clear hx5
  have hx6 := cell_of_below hb x6; clear x6; have x6 := hx6; clear hx6
  have hc0 := cell_of_below hb c0; clear c0; have c0 := hc0; clear hc0
  have hc1 := cell_of_below hb c1; clear c1; have c1 := hc1; clear hc1
  have hc2 := cell_of_below hb c2; clear c2; have c2 := hc2; clear hc2
  have hc3 := cell_of_below hb c3; clear c3; have c3 := hc3; clear hc3
  have hc4 := cell_of_below hb c4; clear c4; have c4 := hc4; clear hc4
  have hc5 := cell_of_below hb c5; clear c5; have c5 := hc5; clear hc5
  have hc6 := cell_of_below hb c6; clear c6; have c6 := hc6; clear hc6
  have HSm := hideL (HS9.out.below hb); clear hb HS9; have HS9 := HSm; clear HSm
  go_simp
  refine hK.out _ _ ⟨x0, x1, x2, x3, x4, x5, x6, c0, c1, c2, c3, c4, c5, c6⟩ (fun hHeld => ?_)
  clear hK K
  (try simp only [Act.put, List.getElem_toArray, List.getElem_cons_zero, List.getElem_cons_succ, List.setIfInBounds_toArray, List.set_cons_zero, List.set_cons_succ])
  refine wpAnyH_ready (rs := [12]) (by kernel_rfl) (by simp) ?_
  refine AllReadyH.cons rfl (fun K hK => ?_) AllReadyH.nil
  go_simp
  go_at_call 24
  refine (HPL.out _).mono ?_
  rintro e wn ⟨rfl, hb⟩
  have hx0 := cell_of_below hb x0; clear x0; have x0 := hx0; clear hx0
  have hx1 := cell_of_below hb x1; clear x1; have x1 := hx1; clear hx1
  have hx2 := cell_of_below hb x2; clear x2; have x2 := hx2; clear hx2
  have hx3 := cell_of_below hb x3; clear x3; have x3 := hx3; clear hx3
  have hx4 := cell_of_below hb x4; clear x4; have x4 := hx4; clear hx4
  have hx5 := cell_of_below hb x5; clear x5; have x5 := hx5; clear hx5
  have hx6 := cell_of_below hb x6; clear x6; have x6 := hx6; clear hx6
  have hc0 := cell_of_below hb c0; clear c0; have c0 := hc0; clear hc0
  have hc1 := cell_of_below hb c1; clear c1; have c1 := hc1; clear hc1
  have hc2 := cell_of_below hb c2; clear c2; have c2 := hc2; clear hc2
  have hc3 := cell_of_below hb c3; clear c3; have c3 := hc3; clear hc3
  have hc4 := cell_of_below hb c4; clear c4; have c4 := hc4; clear hc4
  have hc5 := cell_of_below hb c5; clear c5; have c5 := hc5; clear hc5
  have hc6 := cell_of_below hb c6; clear c6; have c6 := hc6; clear hc6
  have HSm := hideL (HS9.out.below hb); clear hb HS9; have HS9 := HSm; clear HSm
  go_simp
  refine hK.out _ _ ⟨x0, x1, x2, x3, x4, x5, x6, c0, c1, c2, c3, c4, c5, c6⟩ (fun hHeld => ?_)
  clear hK K
  (try simp only [Act.put, List.getElem_toArray, List.getElem_cons_zero, List.getElem_cons_succ, List.setIfInBounds_toArray, List.set_cons_zero, List.set_cons_succ])
  refine' wpAnyH_take (i := 13) (v := _) rfl (by kernel_rfl) (by kernel_rfl) (by kernel_rfl) (fun _ _ _ h => h) (Or.inl ⟨by rfl, ?_⟩) (by assumption) ?_; rotate_left
  · intro w hSw; (try dsimp only at hSw); go_simp <;> with_reducible rfl
  (try simp only [Act.put, List.getElem_toArray, List.getElem_cons_zero, List.getElem_cons_succ, List.setIfInBounds_toArray, List.set_cons_zero, List.set_cons_succ])
  refine' wpAnyH_take (i := 14) (v := _) rfl (by kernel_rfl) (by kernel_rfl) (by kernel_rfl) (fun _ _ _ h => h) (Or.inl ⟨by rfl, ?_⟩) (by assumption) ?_; rotate_left
  · intro w hSw; (try dsimp only at hSw); go_simp <;> with_reducible rfl
  (try simp only [Act.put, List.getElem_toArray, List.getElem_cons_zero, List.getElem_cons_succ, List.setIfInBounds_toArray, List.set_cons_zero, List.set_cons_succ])
  refine' wpAnyH_take (i := 15) (v := _) rfl (by kernel_rfl) (by kernel_rfl) (by kernel_rfl) (fun _ _ _ h => h) (Or.inl ⟨by rfl, ?_⟩) (by assumption) ?_; rotate_left
  · intro w hSw; (try dsimp only at hSw); go_simp <;> with_reducible rfl
  (try simp only [Act.put, List.getElem_toArray, List.getElem_cons_zero, List.getElem_cons_succ, List.setIfInBounds_toArray, List.set_cons_zero, List.set_cons_succ])
  refine' wpAnyH_take (i := 16) (v := _) rfl (by kernel_rfl) (by kernel_rfl) (by kernel_rfl) (fun _ _ _ h => h) (Or.inl ⟨by rfl, ?_⟩) (by assumption) ?_; rotate_left
  · intro w hSw; (try dsimp only at hSw); go_simp <;> with_reducible rfl
  (try simp only [Act.put, List.getElem_toArray, List.getElem_cons_zero, List.getElem_cons_succ, List.setIfInBounds_toArray, List.set_cons_zero, List.set_cons_succ])
  refine' wpAnyH_take (i := 17) (v := _) rfl (by kernel_rfl) (by kernel_rfl) (by kernel_rfl) (fun _ _ _ h => h) (Or.inl ⟨by rfl, ?_⟩) (by assumption) ?_; rotate_left
  · intro w hSw; (try dsimp only at hSw); go_simp <;> with_reducible rfl
  (try simp only [Act.put, List.getElem_toArray, List.getElem_cons_zero, List.getElem_cons_succ, List.setIfInBounds_toArray, List.set_cons_zero, List.set_cons_succ])
  refine' wpAnyH_take (i := 18) (v := _) rfl (by kernel_rfl) (by kernel_rfl) (by kernel_rfl) (fun _ _ _ h => h) (Or.inl ⟨by rfl, ?_⟩) (by assumption) ?_; rotate_left
  · intro w hSw; (try dsimp only at hSw); go_simp <;> with_reducible rfl
  (try simp only [Act.put, List.getElem_toArray, List.getElem_cons_zero, List.getElem_cons_succ, List.setIfInBounds_toArray, List.set_cons_zero, List.set_cons_succ])
  refine wpAnyH_done (by kernel_rfl) ?_ _
  clear hHeld x0 x1 x2 x3 x4 x5 x6 c0 c1 c2 c3 c4 c5 c6 he
  go_upto_region 15 with (first
    | (go_at_call 12; have hq := HS9; clear hq; refine (lentE a n cap zs _ HS9.out.tl (by have := HH.out; have := HS9.out.tl.fits; omega)).mono ?_; rintro e wq ⟨vq, rfl, hL⟩; obtain ⟨aq, cq, rfl, hB, -⟩ := hL.row.1.bs HS9.out.tl.oct (by have := HS9.out.tl.len; have := HS9.out.tl.small; omega); have hln := HS9.out.tl.len; rw [hln] at hB ⊢; have HBq := hideL hB; have HSq := hideL (HS9.out.below hL.row.2); clear hL hB hln HS9)
    | (go_at_call 13; have hq := HSq; clear hq; refine (decode_any aq n cq zs _ HBq.out HSq.out.tab).mono ?_; rintro e wy ⟨rfl, hb⟩; rw [HDE.out]; simp only [mv]; have HSy := hideL (HSq.out.below hb); clear hb HSq HBq)
    | (go_at_call 9; have hq := HSy; clear hq; have hb0 := (Below.refl wy.heap.size wy).alloc (Nat.le_refl _) (.cells (mcs { kind := yk, name := yn, ver := yv, frm := yf, non := yo, err := ye, text := yt }).toArray 29); refine (HEY.out _ (HSy.out.below hb0).tab).mono ?_; rintro e we ⟨ve, rfl, hr, hb⟩; obtain ⟨av, cv, rfl, hB, -⟩ := hr.bs HYO.out (by have := HYL.out; omega); rw [HTL.out] at hB ⊢; have HBv := hideL hB; have HSe := hideL ((HSy.out.below hb0).below hb); have HYX := hideL ((hb.block _ (by simp)).trans (heap_alloc_new wy (.cells (mcs { kind := yk, name := yn, ver := yv, frm := yf, non := yo, err := ye, text := yt }).toArray 29))); clear hr hb hb0 hB HSy))
  have hb9 := (Below.refl we.heap.size we).drew
  have hSE := HSe.out.below hb9
  have hXE := (hb9.block _ (Array.getElem?_eq_some_iff.1 HYX.out).1).trans HYX.out
  have hBE := HBv.out.below hb9
  obtain ⟨x0, x1, x2, x3, x4, x5, x6, -⟩ := cs7 hXE
  have hts := hSE.tl.take N HNN.out
  have s1 := str_of _ av N cv (zs.take N) hBE.len hBE.has
  have s2 := str_of _ a N cap (zs.take N) hts.len hts.has
  refine wp_region_held_drew (S := (fun w' => w'.cell? ⟨wy.heap.size, 0, none⟩ = some (.int .i64 yk) ∧ w'.cell? ⟨wy.heap.size, 1, none⟩ = some (.string yn) ∧ w'.cell? ⟨wy.heap.size, 2, none⟩ = some (.int .i64 yv) ∧ w'.cell? ⟨wy.heap.size, 3, none⟩ = some (.int .i64 yf) ∧ w'.cell? ⟨wy.heap.size, 4, none⟩ = some (.int .i64 yo) ∧ w'.cell? ⟨wy.heap.size, 5, none⟩ = some (.int .i64 ye) ∧ w'.cell? ⟨wy.heap.size, 6, none⟩ = some (.string yt) ∧ (convert 24 9 (.slice av N cv)).run Tryd.prog w' = .ok (.string (bstr (zs.take N))) w' ∧ (convert 24 9 (.slice a N cap)).run Tryd.prog w' = .ok (.string (bstr (zs.take N))) w')) (by kernel_rfl) ⟨x0, x1, x2, x3, x4, x5, x6, s1, s2⟩ (fun hHeld => ?_)
  clear hb9 hts
  generalize hV : we.drew = V at *
  clear hV
  have HSE := hideL hSE
  have HBE := hideL hBE
  clear hSE hXE hBE HSe HYX HBv
  have hey := HQY.out
  refine' wpAnyH_take (i := 0) (v := _) rfl (by kernel_rfl) (by kernel_rfl) (by kernel_rfl) (fun _ _ _ h => h) (Or.inl ⟨by rfl, ?_⟩) (by assumption) ?_; rotate_left
  · intro w hSw; (try dsimp only at hSw); go_simp <;> with_reducible rfl
  (try simp only [Act.put, List.getElem_toArray, List.getElem_cons_zero, List.getElem_cons_succ, List.setIfInBounds_toArray, List.set_cons_zero, List.set_cons_succ])
  refine' wpAnyH_take (i := 1) (v := _) rfl (by kernel_rfl) (by kernel_rfl) (by kernel_rfl) (fun _ _ _ h => h) (Or.inl ⟨by rfl, ?_⟩) (by assumption) ?_; rotate_left
  · intro w hSw; (try dsimp only at hSw); go_simp <;> with_reducible rfl
  (try simp only [Act.put, List.getElem_toArray, List.getElem_cons_zero, List.getElem_cons_succ, List.setIfInBounds_toArray, List.set_cons_zero, List.set_cons_succ])
  refine' wpAnyH_take (i := 2) (v := _) rfl (by kernel_rfl) (by kernel_rfl) (by kernel_rfl) (fun _ _ _ h => h) (Or.inl ⟨by rfl, ?_⟩) (by assumption) ?_; rotate_left
  · intro w hSw; (try dsimp only at hSw); go_simp <;> with_reducible rfl
  (try simp only [Act.put, List.getElem_toArray, List.getElem_cons_zero, List.getElem_cons_succ, List.setIfInBounds_toArray, List.set_cons_zero, List.set_cons_succ])
  refine' wpAnyH_take (i := 3) (v := _) rfl (by kernel_rfl) (by kernel_rfl) (by kernel_rfl) (fun _ _ _ h => h) (Or.inl ⟨by rfl, ?_⟩) (by assumption) ?_; rotate_left
  · intro w hSw; (try dsimp only at hSw); go_simp <;> with_reducible rfl
  (try simp only [Act.put, List.getElem_toArray, List.getElem_cons_zero, List.getElem_cons_succ, List.setIfInBounds_toArray, List.set_cons_zero, List.set_cons_succ])
  refine' wpAnyH_take (i := 4) (v := _) rfl (by kernel_rfl) (by kernel_rfl) (by kernel_rfl) (fun _ _ _ h => h) (Or.inl ⟨by rfl, ?_⟩) (by assumption) ?_; rotate_left
  · intro w hSw; (try dsimp only at hSw); go_simp <;> with_reducible rfl
  (try simp only [Act.put, List.getElem_toArray, List.getElem_cons_zero, List.getElem_cons_succ, List.setIfInBounds_toArray, List.set_cons_zero, List.set_cons_succ])
  refine' wpAnyH_take (i := 5) (v := _) rfl (by kernel_rfl) (by kernel_rfl) (by kernel_rfl) (fun _ _ _ h => h) (Or.inl ⟨by rfl, ?_⟩) (by assumption) ?_; rotate_left
  · intro w hSw; (try dsimp only at hSw); go_simp <;> with_reducible rfl
  (try simp only [Act.put, List.getElem_toArray, List.getElem_cons_zero, List.getElem_cons_succ, List.setIfInBounds_toArray, List.set_cons_zero, List.set_cons_succ])
  refine' wpAnyH_take (i := 6) (v := _) rfl (by kernel_rfl) (by kernel_rfl) (by kernel_rfl) (fun _ _ _ h => h) (Or.inl ⟨by rfl, ?_⟩) (by assumption) ?_; rotate_left
  · intro w hSw; (try dsimp only at hSw); go_simp <;> with_reducible rfl
  (try simp only [Act.put, List.getElem_toArray, List.getElem_cons_zero, List.getElem_cons_succ, List.setIfInBounds_toArray, List.set_cons_zero, List.set_cons_succ])
  refine' wpAnyH_take (i := 7) (v := _) rfl (by kernel_rfl) (by kernel_rfl) (by kernel_rfl) (fun _ _ _ h => h) (Or.inl ⟨by rfl, ?_⟩) (by assumption) ?_; rotate_left
  · intro w hSw; (try dsimp only at hSw); go_simp <;> with_reducible rfl
  (try simp only [Act.put, List.getElem_toArray, List.getElem_cons_zero, List.getElem_cons_succ, List.setIfInBounds_toArray, List.set_cons_zero, List.set_cons_succ])
  refine' wpAnyH_take (i := 8) (v := _) rfl (by kernel_rfl) (by kernel_rfl) (by kernel_rfl) (fun _ _ _ h => h) (Or.inl ⟨by rfl, ?_⟩) (by assumption) ?_; rotate_left
  · intro w hSw; (try dsimp only at hSw); go_simp <;> with_reducible rfl
  (try simp only [Act.put, List.getElem_toArray, List.getElem_cons_zero, List.getElem_cons_succ, List.setIfInBounds_toArray, List.set_cons_zero, List.set_cons_succ])
  refine' wpAnyH_take (i := 9) (v := _) rfl (by kernel_rfl) (by kernel_rfl) (by kernel_rfl) (fun _ _ _ h => h) (Or.inl ⟨by rfl, ?_⟩) (by assumption) ?_; rotate_left
  · intro w hSw; (try dsimp only at hSw); go_simp <;> with_reducible rfl
  (try simp only [Act.put, List.getElem_toArray, List.getElem_cons_zero, List.getElem_cons_succ, List.setIfInBounds_toArray, List.set_cons_zero, List.set_cons_succ])
  refine' wpAnyH_take (i := 10) (v := _) rfl (by kernel_rfl) (by kernel_rfl) (by kernel_rfl) (fun _ _ _ h => h) (Or.inl ⟨by rfl, ?_⟩) (by assumption) ?_; rotate_left
  · intro w hSw; (try dsimp only at hSw); go_simp <;> with_reducible rfl
  (try simp only [Act.put, List.getElem_toArray, List.getElem_cons_zero, List.getElem_cons_succ, List.setIfInBounds_toArray, List.set_cons_zero, List.set_cons_succ])
  refine' wpAnyH_take (i := 11) (v := _) rfl (by kernel_rfl) (by kernel_rfl) (by kernel_rfl) (fun _ _ _ h => h) (Or.inl ⟨by rfl, ?_⟩) (by assumption) ?_; rotate_left
  · intro w hSw; (try dsimp only at hSw); go_simp <;> with_reducible rfl
  (try simp only [Act.put, List.getElem_toArray, List.getElem_cons_zero, List.getElem_cons_succ, List.setIfInBounds_toArray, List.set_cons_zero, List.set_cons_succ])
  refine' wpAnyH_take (i := 12) (v := _) rfl (by kernel_rfl) (by kernel_rfl) (by kernel_rfl) (fun _ _ _ h => h) (Or.inl ⟨by rfl, ?_⟩) (by assumption) ?_; rotate_left
  · intro w hSw; (try dsimp only at hSw); go_simp <;> with_reducible rfl
  (try simp only [Act.put, List.getElem_toArray, List.getElem_cons_zero, List.getElem_cons_succ, List.setIfInBounds_toArray, List.set_cons_zero, List.set_cons_succ])
  refine' wpAnyH_take (i := 13) (v := _) rfl (by kernel_rfl) (by kernel_rfl) (by kernel_rfl) (fun _ _ _ h => h) (Or.inl ⟨by rfl, ?_⟩) (by assumption) ?_; rotate_left
  · intro w hSw; (try dsimp only at hSw); go_simp <;> with_reducible rfl
  (try simp only [Act.put, List.getElem_toArray, List.getElem_cons_zero, List.getElem_cons_succ, List.setIfInBounds_toArray, List.set_cons_zero, List.set_cons_succ])
  refine' wpAnyH_take (i := 14) (v := _) rfl (by kernel_rfl) (by kernel_rfl) (by kernel_rfl) (fun _ _ _ h => h) (Or.inl ⟨by rfl, ?_⟩) (by assumption) ?_; rotate_left
  · intro w hSw; (try dsimp only at hSw); go_simp <;> with_reducible rfl
  (try simp only [Act.put, List.getElem_toArray, List.getElem_cons_zero, List.getElem_cons_succ, List.setIfInBounds_toArray, List.set_cons_zero, List.set_cons_succ])
  refine' wpAnyH_take (i := 15) (v := _) rfl (by kernel_rfl) (by kernel_rfl) (by kernel_rfl) (fun _ _ _ h => h) (Or.inl ⟨by rfl, ?_⟩) (by assumption) ?_; rotate_left
  · intro w hSw; (try dsimp only at hSw); go_simp <;> with_reducible rfl
  (try simp only [Act.put, List.getElem_toArray, List.getElem_cons_zero, List.getElem_cons_succ, List.setIfInBounds_toArray, List.set_cons_zero, List.set_cons_succ])
  refine' wpAnyH_take (i := 16) (v := _) rfl (by kernel_rfl) (by kernel_rfl) (by kernel_rfl) (fun _ _ _ h => h) (Or.inl ⟨by rfl, ?_⟩) (by assumption) ?_; rotate_left
  · intro w hSw; (try dsimp only at hSw); go_simp <;> with_reducible rfl
  (try simp only [Act.put, List.getElem_toArray, List.getElem_cons_zero, List.getElem_cons_succ, List.setIfInBounds_toArray, List.set_cons_zero, List.set_cons_succ])
  refine' wpAnyH_take (i := 17) (v := _) rfl (by kernel_rfl) (by kernel_rfl) (by kernel_rfl) (fun _ _ _ h => h) (Or.inl ⟨by rfl, ?_⟩) (by assumption) ?_; rotate_left
  · intro w hSw; (try dsimp only at hSw); go_simp <;> with_reducible rfl
  (try simp only [Act.put, List.getElem_toArray, List.getElem_cons_zero, List.getElem_cons_succ, List.setIfInBounds_toArray, List.set_cons_zero, List.set_cons_succ])
  refine' wpAnyH_take (i := 18) (v := _) rfl (by kernel_rfl) (by kernel_rfl) (by kernel_rfl) (fun _ _ _ h => h) (Or.inl ⟨by rfl, ?_⟩) (by assumption) ?_; rotate_left
  · intro w hSw; (try dsimp only at hSw); go_simp <;> with_reducible rfl
  (try simp only [Act.put, List.getElem_toArray, List.getElem_cons_zero, List.getElem_cons_succ, List.setIfInBounds_toArray, List.set_cons_zero, List.set_cons_succ])
  refine' wpAnyH_take (i := 19) (v := _) rfl (by kernel_rfl) (by kernel_rfl) (by kernel_rfl) (fun _ _ _ h => h) (Or.inl ⟨by rfl, ?_⟩) (by assumption) ?_; rotate_left
  · intro w hSw; (try dsimp only at hSw); go_simp <;> with_reducible rfl
  (try simp only [Act.put, List.getElem_toArray, List.getElem_cons_zero, List.getElem_cons_succ, List.setIfInBounds_toArray, List.set_cons_zero, List.set_cons_succ])
  refine wpAnyH_ready (rs := [20]) (by kernel_rfl) (by simp) ?_
  refine AllReadyH.cons rfl (fun K hK => ?_) AllReadyH.nil
  go_simp
  go_at_call 24
  refine (HPY.out _).mono ?_
  rintro e wn ⟨rfl, hb⟩
  have hx0 := cell_of_below hb x0; clear x0; have x0 := hx0; clear hx0
  have hx1 := cell_of_below hb x1; clear x1; have x1 := hx1; clear hx1
  have hx2 := cell_of_below hb x2; clear x2; have x2 := hx2; clear hx2
  have hx3 := cell_of_below hb x3; clear x3; have x3 := hx3; clear hx3
  have hx4 := cell_of_below hb x4; clear x4; have x4 := hx4; clear hx4
  have hx5 := cell_of_below hb x5; clear x5; have x5 := hx5; clear hx5
  have hx6 := cell_of_below hb x6; clear x6; have x6 := hx6; clear hx6
  have hBn := HBE.out.below hb; have hTn := (HSE.out.below hb).tl.take N HNN.out; clear s1 s2
  have s1 := str_of _ av N cv (zs.take N) hBn.len hBn.has; have s2 := str_of _ a N cap (zs.take N) hTn.len hTn.has; have HSn := hideL (HSE.out.below hb); clear hb hBn hTn HBE HSE
  go_simp
  refine hK.out _ _ ⟨x0, x1, x2, x3, x4, x5, x6, s1, s2⟩ (fun hHeld => ?_)
  clear hK K
  (try simp only [Act.put, List.getElem_toArray, List.getElem_cons_zero, List.getElem_cons_succ, List.setIfInBounds_toArray, List.set_cons_zero, List.set_cons_succ])
  refine' wpAnyH_take (i := 21) (v := _) rfl (by kernel_rfl) (by kernel_rfl) (by kernel_rfl) (fun _ _ _ h => h) (Or.inl ⟨by rfl, ?_⟩) (by assumption) ?_; rotate_left
  · intro w hSw; (try dsimp only at hSw); go_simp <;> with_reducible rfl
  (try simp only [Act.put, List.getElem_toArray, List.getElem_cons_zero, List.getElem_cons_succ, List.setIfInBounds_toArray, List.set_cons_zero, List.set_cons_succ])
  refine' wpAnyH_take (i := 22) (v := _) rfl (by kernel_rfl) (by kernel_rfl) (by kernel_rfl) (fun _ _ _ h => h) (Or.inl ⟨by rfl, ?_⟩) (by assumption) ?_; rotate_left
  · intro w hSw; (try dsimp only at hSw); go_simp <;> with_reducible rfl
  (try simp only [Act.put, List.getElem_toArray, List.getElem_cons_zero, List.getElem_cons_succ, List.setIfInBounds_toArray, List.set_cons_zero, List.set_cons_succ])
  refine' wpAnyH_take (i := 23) (v := _) rfl (by kernel_rfl) (by kernel_rfl) (by kernel_rfl) (fun _ _ _ h => h) (Or.inl ⟨by rfl, ?_⟩) (by assumption) ?_; rotate_left
  · intro w hSw; (try dsimp only at hSw); go_simp <;> with_reducible rfl
  (try simp only [Act.put, List.getElem_toArray, List.getElem_cons_zero, List.getElem_cons_succ, List.setIfInBounds_toArray, List.set_cons_zero, List.set_cons_succ])
  refine wpAnyH_done (by kernel_rfl) ?_ _
  clear hHeld x0 x1 x2 x3 x4 x5 x6 hey s1 s2
  go_wp2
  go_ret
  exact ⟨rfl, HSn.out.hw.2.1⟩
end Go.Proofs.YteeclghhoioapaaDoor

/-
  FramesBack: the ways, one by one.
-/
namespace Go.Proofs.YteeclghhoioapaaDoor
open Go.RowKit
set_option linter.unusedVariables false
set_option linter.unusedSimpArgs false
set_option maxRecDepth 100000
set_option maxHeartbeats 8000000 in
theorem fback4 (m : Ms) (a : Option Addr) (n cap : Nat) (zs : List Int) (c : Int) (w : World) (hT : Tab w) (hs : Sm m) (h : Bs w a n cap zs) (hn : cap ≤ 1048576) (hc : -9223372036854775808 ≤ c ∧ c ≤ 9223372036854775807) (ho : okM m = false) (hd : (decM zs).2.2 = 0) :
    Calls Tryd.prog 6 #[mv m, .slice a n cap, .int .i64 c] w fun e w' => e = .returned (.bool true) ∧ Below w.heap.size w w' := by
  have HO := hideL (fun w => own_any m w (by have := hs.2.1; unfold maxLen; omega) (by have := hs.2.2.1; unfold maxLen; omega))
  have HE := hideL (fun w h => encode_any m w h hs)
  have HFO := hideL (frm_octets m)
  have HFL := hideL (frm_small m)
  have HS := hideL (Fbs.start w m a n cap zs hT h)
  have HC := hideL hc
  have hcl : n ≤ cap := h.fits
  have e1 : frmE m = 2 := by unfold frmE; rw [ho]; rfl
  have e2 : frmB m = [] := by unfold frmB; rw [ho]; rfl
  rw [e2] at HE
  clear e2
  rw [e1] at HE
  obtain ⟨b1, b2, b3, b4, b5, b6, b7⟩ := dec_back zs hd
  have hlz := h.len
  have hsy : Sm (decM zs).1 := plain_sm _ b3 b4
  have HEY := hideL (fun w h => encode_any (decM zs).1 w h hsy)
  have HYO := hideL (frm_octets (decM zs).1)
  have HYL := hideL (frm_small (decM zs).1)
  have y1 : frmE (decM zs).1 = 0 := by unfold frmE; rw [b3]; rfl
  have y2 : frmB (decM zs).1 = zs.take (8 + lenM zs) := by unfold frmB; rw [b3]; exact b6
  rw [y1, y2] at HEY
  rw [y2] at HYO HYL
  have HPY := hideL (fun w => plain_any (decM zs).1 w)
  rw [b4] at HPY
  have HQY := hideL (eq29 (decM zs).1)
  have HDE : Hid (decM zs = ((decM zs).1, 8 + (lenM zs : Int), 0)) := by show _ = _; rw [← b7, ← hd]
  obtain ⟨N, hN⟩ : ∃ N, 8 + lenM zs = N := ⟨_, rfl⟩
  have hNI : 8 + (lenM zs : Int) = (N : Int) := by omega
  have hNn : (N : Int) ≤ n := by omega
  have hNc : (N : Int) ≤ cap := by omega
  rw [hNI] at HDE
  rw [hN] at HEY HYO HYL
  obtain ⟨ym, hym⟩ : ∃ ym, (decM zs).1 = ym := ⟨_, rfl⟩
  rw [hym] at HEY HPY HQY HDE
  have HTL : Hid ((zs.take N).length = N) := by show _ = _; rw [List.length_take]; omega
  have hNn' : N ≤ n := by omega
  have HNN := hideL hNn'
  clear b1 b2 b3 b4 b5 b6 b7 y1 y2 hN hNI hsy hym hlz hNn'
  obtain ⟨yk, yn, yv, yf, yo, ye, yt⟩ := ym
  obtain ⟨kind, name, ver, frm, non, err, text⟩ := m
  have HH := hideL hn
  clear hT hs h hd ho e1 hn hc
  simp only [mv, mcs] at *
  go_enter Tryd.func6, Tryd.ntmps6
  go_upto_region 15 with (first
    | (go_at_call 22; have hq := HS; clear hq; refine (awake_any _ HS.out.tab).mono ?_; rintro e w1 ⟨rfl, hb⟩; have hS := HS.out.below hb; obtain ⟨c0, c1, c2, c3, c4, c5, c6⟩ := hS.hw.1.cs; have HS1 := hideL hS; clear hS hb HS)
    | (go_at_call 10; have hq := HS1; clear hq; refine (HO.out _).mono ?_; rintro e w2 ⟨rfl, hb⟩; have HS2 := hideL (HS1.out.below hb); clear hb HS1 c0 c1 c2 c3 c4 c5 c6)
    | (go_at_call 9; have hq := HS2; clear hq; refine (HE.out _ HS2.out.tab).mono ?_; rintro e w3 ⟨v3, rfl, hr, hb⟩; obtain ⟨ab, cb, rfl, -⟩ := hr.has; have HS3 := hideL (HS2.out.below hb); clear hr hb HS2)
    | (go_at_call 12; have hq := HS3; clear hq; refine (lentE a n cap zs _ HS3.out.tl (by have := HH.out; have := HS3.out.tl.fits; omega)).mono ?_; rintro e wq ⟨vq, rfl, hL⟩; obtain ⟨aq, cq, rfl, hB, -⟩ := hL.row.1.bs HS3.out.tl.oct (by have := HS3.out.tl.len; have := HS3.out.tl.small; omega); have hln := HS3.out.tl.len; rw [hln] at hB ⊢; have HBq := hideL hB; have HSq := hideL (HS3.out.below hL.row.2); clear hL hB hln HS3)
    | (go_at_call 13; have hq := HSq; clear hq; refine (decode_any aq n cq zs _ HBq.out HSq.out.tab).mono ?_; rintro e wy ⟨rfl, hb⟩; rw [HDE.out]; simp only [mv]; have HSy := hideL (HSq.out.below hb); clear hb HSq HBq)
    | (go_at_call 9; have hq := HSy; clear hq; have hb0 := (Below.refl wy.heap.size wy).alloc (Nat.le_refl _) (.cells (mcs { kind := yk, name := yn, ver := yv, frm := yf, non := yo, err := ye, text := yt }).toArray 29); refine (HEY.out _ (HSy.out.below hb0).tab).mono ?_; rintro e we ⟨ve, rfl, hr, hb⟩; obtain ⟨av, cv, rfl, hB, -⟩ := hr.bs HYO.out (by have := HYL.out; omega); rw [HTL.out] at hB ⊢; have HBv := hideL hB; have HSe := hideL ((HSy.out.below hb0).below hb); have HYX := hideL ((hb.block _ (by simp)).trans (heap_alloc_new wy (.cells (mcs { kind := yk, name := yn, ver := yv, frm := yf, non := yo, err := ye, text := yt }).toArray 29))); clear hr hb hb0 hB HSy))
  have hb9 := (Below.refl we.heap.size we).drew
  have hSE := HSe.out.below hb9
  have hXE := (hb9.block _ (Array.getElem?_eq_some_iff.1 HYX.out).1).trans HYX.out
  have hBE := HBv.out.below hb9
  obtain ⟨x0, x1, x2, x3, x4, x5, x6, -⟩ := cs7 hXE
  have hts := hSE.tl.take N HNN.out
  have s1 := str_of _ av N cv (zs.take N) hBE.len hBE.has
  have s2 := str_of _ a N cap (zs.take N) hts.len hts.has
  refine wp_region_held_drew (S := (fun w' => w'.cell? ⟨wy.heap.size, 0, none⟩ = some (.int .i64 yk) ∧ w'.cell? ⟨wy.heap.size, 1, none⟩ = some (.string yn) ∧ w'.cell? ⟨wy.heap.size, 2, none⟩ = some (.int .i64 yv) ∧ w'.cell? ⟨wy.heap.size, 3, none⟩ = some (.int .i64 yf) ∧ w'.cell? ⟨wy.heap.size, 4, none⟩ = some (.int .i64 yo) ∧ w'.cell? ⟨wy.heap.size, 5, none⟩ = some (.int .i64 ye) ∧ w'.cell? ⟨wy.heap.size, 6, none⟩ = some (.string yt) ∧ (convert 24 9 (.slice av N cv)).run Tryd.prog w' = .ok (.string (bstr (zs.take N))) w' ∧ (convert 24 9 (.slice a N cap)).run Tryd.prog w' = .ok (.string (bstr (zs.take N))) w')) (by kernel_rfl) ⟨x0, x1, x2, x3, x4, x5, x6, s1, s2⟩ (fun hHeld => ?_)
  clear hb9 hts
  generalize hV : we.drew = V at *
  clear hV
  have HSE := hideL hSE
  have HBE := hideL hBE
  clear hSE hXE hBE HSe HYX HBv
  have hey := HQY.out
  refine' wpAnyH_take (i := 0) (v := _) rfl (by kernel_rfl) (by kernel_rfl) (by kernel_rfl) (fun _ _ _ h => h) (Or.inl ⟨by rfl, ?_⟩) (by assumption) ?_; rotate_left
  · intro w hSw; (try dsimp only at hSw); go_simp <;> with_reducible rfl
  (try simp only [Act.put, List.getElem_toArray, List.getElem_cons_zero, List.getElem_cons_succ, List.setIfInBounds_toArray, List.set_cons_zero, List.set_cons_succ])
  refine' wpAnyH_take (i := 1) (v := _) rfl (by kernel_rfl) (by kernel_rfl) (by kernel_rfl) (fun _ _ _ h => h) (Or.inl ⟨by rfl, ?_⟩) (by assumption) ?_; rotate_left
  · intro w hSw; (try dsimp only at hSw); go_simp <;> with_reducible rfl
  (try simp only [Act.put, List.getElem_toArray, List.getElem_cons_zero, List.getElem_cons_succ, List.setIfInBounds_toArray, List.set_cons_zero, List.set_cons_succ])
  refine' wpAnyH_take (i := 2) (v := _) rfl (by kernel_rfl) (by kernel_rfl) (by kernel_rfl) (fun _ _ _ h => h) (Or.inl ⟨by rfl, ?_⟩) (by assumption) ?_; rotate_left
  · intro w hSw; (try dsimp only at hSw); go_simp <;> with_reducible rfl
  (try simp only [Act.put, List.getElem_toArray, List.getElem_cons_zero, List.getElem_cons_succ, List.setIfInBounds_toArray, List.set_cons_zero, List.set_cons_succ])
  refine' wpAnyH_take (i := 3) (v := _) rfl (by kernel_rfl) (by kernel_rfl) (by kernel_rfl) (fun _ _ _ h => h) (Or.inl ⟨by rfl, ?_⟩) (by assumption) ?_; rotate_left
  · intro w hSw; (try dsimp only at hSw); go_simp <;> with_reducible rfl
  (try simp only [Act.put, List.getElem_toArray, List.getElem_cons_zero, List.getElem_cons_succ, List.setIfInBounds_toArray, List.set_cons_zero, List.set_cons_succ])
  refine' wpAnyH_take (i := 4) (v := _) rfl (by kernel_rfl) (by kernel_rfl) (by kernel_rfl) (fun _ _ _ h => h) (Or.inl ⟨by rfl, ?_⟩) (by assumption) ?_; rotate_left
  · intro w hSw; (try dsimp only at hSw); go_simp <;> with_reducible rfl
  (try simp only [Act.put, List.getElem_toArray, List.getElem_cons_zero, List.getElem_cons_succ, List.setIfInBounds_toArray, List.set_cons_zero, List.set_cons_succ])
  refine' wpAnyH_take (i := 5) (v := _) rfl (by kernel_rfl) (by kernel_rfl) (by kernel_rfl) (fun _ _ _ h => h) (Or.inl ⟨by rfl, ?_⟩) (by assumption) ?_; rotate_left
  · intro w hSw; (try dsimp only at hSw); go_simp <;> with_reducible rfl
  (try simp only [Act.put, List.getElem_toArray, List.getElem_cons_zero, List.getElem_cons_succ, List.setIfInBounds_toArray, List.set_cons_zero, List.set_cons_succ])
  refine' wpAnyH_take (i := 6) (v := _) rfl (by kernel_rfl) (by kernel_rfl) (by kernel_rfl) (fun _ _ _ h => h) (Or.inl ⟨by rfl, ?_⟩) (by assumption) ?_; rotate_left
  · intro w hSw; (try dsimp only at hSw); go_simp <;> with_reducible rfl
  (try simp only [Act.put, List.getElem_toArray, List.getElem_cons_zero, List.getElem_cons_succ, List.setIfInBounds_toArray, List.set_cons_zero, List.set_cons_succ])
  refine' wpAnyH_take (i := 7) (v := _) rfl (by kernel_rfl) (by kernel_rfl) (by kernel_rfl) (fun _ _ _ h => h) (Or.inl ⟨by rfl, ?_⟩) (by assumption) ?_; rotate_left
  · intro w hSw; (try dsimp only at hSw); go_simp <;> with_reducible rfl
  (try simp only [Act.put, List.getElem_toArray, List.getElem_cons_zero, List.getElem_cons_succ, List.setIfInBounds_toArray, List.set_cons_zero, List.set_cons_succ])
  refine' wpAnyH_take (i := 8) (v := _) rfl (by kernel_rfl) (by kernel_rfl) (by kernel_rfl) (fun _ _ _ h => h) (Or.inl ⟨by rfl, ?_⟩) (by assumption) ?_; rotate_left
  · intro w hSw; (try dsimp only at hSw); go_simp <;> with_reducible rfl
  (try simp only [Act.put, List.getElem_toArray, List.getElem_cons_zero, List.getElem_cons_succ, List.setIfInBounds_toArray, List.set_cons_zero, List.set_cons_succ])
  refine' wpAnyH_take (i := 9) (v := _) rfl (by kernel_rfl) (by kernel_rfl) (by kernel_rfl) (fun _ _ _ h => h) (Or.inl ⟨by rfl, ?_⟩) (by assumption) ?_; rotate_left
  · intro w hSw; (try dsimp only at hSw); go_simp <;> with_reducible rfl
  (try simp only [Act.put, List.getElem_toArray, List.getElem_cons_zero, List.getElem_cons_succ, List.setIfInBounds_toArray, List.set_cons_zero, List.set_cons_succ])
  refine' wpAnyH_take (i := 10) (v := _) rfl (by kernel_rfl) (by kernel_rfl) (by kernel_rfl) (fun _ _ _ h => h) (Or.inl ⟨by rfl, ?_⟩) (by assumption) ?_; rotate_left
  · intro w hSw; (try dsimp only at hSw); go_simp <;> with_reducible rfl
  (try simp only [Act.put, List.getElem_toArray, List.getElem_cons_zero, List.getElem_cons_succ, List.setIfInBounds_toArray, List.set_cons_zero, List.set_cons_succ])
  refine' wpAnyH_take (i := 11) (v := _) rfl (by kernel_rfl) (by kernel_rfl) (by kernel_rfl) (fun _ _ _ h => h) (Or.inl ⟨by rfl, ?_⟩) (by assumption) ?_; rotate_left
  · intro w hSw; (try dsimp only at hSw); go_simp <;> with_reducible rfl
  (try simp only [Act.put, List.getElem_toArray, List.getElem_cons_zero, List.getElem_cons_succ, List.setIfInBounds_toArray, List.set_cons_zero, List.set_cons_succ])
  refine' wpAnyH_take (i := 12) (v := _) rfl (by kernel_rfl) (by kernel_rfl) (by kernel_rfl) (fun _ _ _ h => h) (Or.inl ⟨by rfl, ?_⟩) (by assumption) ?_; rotate_left
  · intro w hSw; (try dsimp only at hSw); go_simp <;> with_reducible rfl
  (try simp only [Act.put, List.getElem_toArray, List.getElem_cons_zero, List.getElem_cons_succ, List.setIfInBounds_toArray, List.set_cons_zero, List.set_cons_succ])
  refine' wpAnyH_take (i := 13) (v := _) rfl (by kernel_rfl) (by kernel_rfl) (by kernel_rfl) (fun _ _ _ h => h) (Or.inl ⟨by rfl, ?_⟩) (by assumption) ?_; rotate_left
  · intro w hSw; (try dsimp only at hSw); go_simp <;> with_reducible rfl
  (try simp only [Act.put, List.getElem_toArray, List.getElem_cons_zero, List.getElem_cons_succ, List.setIfInBounds_toArray, List.set_cons_zero, List.set_cons_succ])
  refine' wpAnyH_take (i := 14) (v := _) rfl (by kernel_rfl) (by kernel_rfl) (by kernel_rfl) (fun _ _ _ h => h) (Or.inl ⟨by rfl, ?_⟩) (by assumption) ?_; rotate_left
  · intro w hSw; (try dsimp only at hSw); go_simp <;> with_reducible rfl
  (try simp only [Act.put, List.getElem_toArray, List.getElem_cons_zero, List.getElem_cons_succ, List.setIfInBounds_toArray, List.set_cons_zero, List.set_cons_succ])
  refine' wpAnyH_take (i := 15) (v := _) rfl (by kernel_rfl) (by kernel_rfl) (by kernel_rfl) (fun _ _ _ h => h) (Or.inl ⟨by rfl, ?_⟩) (by assumption) ?_; rotate_left
  · intro w hSw; (try dsimp only at hSw); go_simp <;> with_reducible rfl
  (try simp only [Act.put, List.getElem_toArray, List.getElem_cons_zero, List.getElem_cons_succ, List.setIfInBounds_toArray, List.set_cons_zero, List.set_cons_succ])
  refine' wpAnyH_take (i := 16) (v := _) rfl (by kernel_rfl) (by kernel_rfl) (by kernel_rfl) (fun _ _ _ h => h) (Or.inl ⟨by rfl, ?_⟩) (by assumption) ?_; rotate_left
  · intro w hSw; (try dsimp only at hSw); go_simp <;> with_reducible rfl
  (try simp only [Act.put, List.getElem_toArray, List.getElem_cons_zero, List.getElem_cons_succ, List.setIfInBounds_toArray, List.set_cons_zero, List.set_cons_succ])
  refine' wpAnyH_take (i := 17) (v := _) rfl (by kernel_rfl) (by kernel_rfl) (by kernel_rfl) (fun _ _ _ h => h) (Or.inl ⟨by rfl, ?_⟩) (by assumption) ?_; rotate_left
  · intro w hSw; (try dsimp only at hSw); go_simp <;> with_reducible rfl
  (try simp only [Act.put, List.getElem_toArray, List.getElem_cons_zero, List.getElem_cons_succ, List.setIfInBounds_toArray, List.set_cons_zero, List.set_cons_succ])
  refine' wpAnyH_take (i := 18) (v := _) rfl (by kernel_rfl) (by kernel_rfl) (by kernel_rfl) (fun _ _ _ h => h) (Or.inl ⟨by rfl, ?_⟩) (by assumption) ?_; rotate_left
  · intro w hSw; (try dsimp only at hSw); go_simp <;> with_reducible rfl
  (try simp only [Act.put, List.getElem_toArray, List.getElem_cons_zero, List.getElem_cons_succ, List.setIfInBounds_toArray, List.set_cons_zero, List.set_cons_succ])
  refine' wpAnyH_take (i := 19) (v := _) rfl (by kernel_rfl) (by kernel_rfl) (by kernel_rfl) (fun _ _ _ h => h) (Or.inl ⟨by rfl, ?_⟩) (by assumption) ?_; rotate_left
  · intro w hSw; (try dsimp only at hSw); go_simp <;> with_reducible rfl
  (try simp only [Act.put, List.getElem_toArray, List.getElem_cons_zero, List.getElem_cons_succ, List.setIfInBounds_toArray, List.set_cons_zero, List.set_cons_succ])
  refine wpAnyH_ready (rs := [20]) (by kernel_rfl) (by simp) ?_
  refine AllReadyH.cons rfl (fun K hK => ?_) AllReadyH.nil
  go_simp
  go_at_call 24
  refine (HPY.out _).mono ?_
  rintro e wn ⟨rfl, hb⟩
  have hx0 := cell_of_below hb x0; clear x0; have x0 := hx0; clear hx0
  have hx1 := cell_of_below hb x1; clear x1; have x1 := hx1; clear hx1
  have hx2 := cell_of_below hb x2; clear x2; have x2 := hx2; clear hx2
  have hx3 := cell_of_below hb x3; clear x3; have x3 := hx3; clear hx3
  have hx4 := cell_of_below hb x4; clear x4; have x4 := hx4; clear hx4
  have hx5 := cell_of_below hb x5; clear x5; have x5 := hx5; clear hx5
  have hx6 := cell_of_below hb x6; clear x6; have x6 := hx6; clear hx6
  have hBn := HBE.out.below hb; have hTn := (HSE.out.below hb).tl.take N HNN.out; clear s1 s2
  have s1 := str_of _ av N cv (zs.take N) hBn.len hBn.has; have s2 := str_of _ a N cap (zs.take N) hTn.len hTn.has; have HSn := hideL (HSE.out.below hb); clear hb hBn hTn HBE HSE
  go_simp
  refine hK.out _ _ ⟨x0, x1, x2, x3, x4, x5, x6, s1, s2⟩ (fun hHeld => ?_)
  clear hK K
  (try simp only [Act.put, List.getElem_toArray, List.getElem_cons_zero, List.getElem_cons_succ, List.setIfInBounds_toArray, List.set_cons_zero, List.set_cons_succ])
  refine' wpAnyH_take (i := 21) (v := _) rfl (by kernel_rfl) (by kernel_rfl) (by kernel_rfl) (fun _ _ _ h => h) (Or.inl ⟨by rfl, ?_⟩) (by assumption) ?_; rotate_left
  · intro w hSw; (try dsimp only at hSw); go_simp <;> with_reducible rfl
  (try simp only [Act.put, List.getElem_toArray, List.getElem_cons_zero, List.getElem_cons_succ, List.setIfInBounds_toArray, List.set_cons_zero, List.set_cons_succ])
  refine' wpAnyH_take (i := 22) (v := _) rfl (by kernel_rfl) (by kernel_rfl) (by kernel_rfl) (fun _ _ _ h => h) (Or.inl ⟨by rfl, ?_⟩) (by assumption) ?_; rotate_left
  · intro w hSw; (try dsimp only at hSw); go_simp <;> with_reducible rfl
  (try simp only [Act.put, List.getElem_toArray, List.getElem_cons_zero, List.getElem_cons_succ, List.setIfInBounds_toArray, List.set_cons_zero, List.set_cons_succ])
  refine' wpAnyH_take (i := 23) (v := _) rfl (by kernel_rfl) (by kernel_rfl) (by kernel_rfl) (fun _ _ _ h => h) (Or.inl ⟨by rfl, ?_⟩) (by assumption) ?_; rotate_left
  · intro w hSw; (try dsimp only at hSw); go_simp <;> with_reducible rfl
  (try simp only [Act.put, List.getElem_toArray, List.getElem_cons_zero, List.getElem_cons_succ, List.setIfInBounds_toArray, List.set_cons_zero, List.set_cons_succ])
  refine wpAnyH_done (by kernel_rfl) ?_ _
  clear hHeld x0 x1 x2 x3 x4 x5 x6 hey s1 s2
  go_wp2
  go_ret
  exact ⟨rfl, HSn.out.hw.2.1⟩
end Go.Proofs.YteeclghhoioapaaDoor

/-
  FramesBack's walk.
-/
namespace Go.Proofs.YteeclghhoioapaaDoor
open Go.RowKit
set_option linter.unusedVariables false
theorem fback_any (m : Ms) (a : Option Addr) (n cap : Nat) (zs : List Int) (c : Int) (w : World) (hT : Tab w) (hs : Sm m) (h : Bs w a n cap zs) (hn : cap ≤ 1048576) (hc : -9223372036854775808 ≤ c ∧ c ≤ 9223372036854775807) :
    Calls Tryd.prog 6 #[mv m, .slice a n cap, .int .i64 c] w fun e w' => e = .returned (.bool true) ∧ Below w.heap.size w w' := by
  rcases dec_err zs with hd | hd | hd
  · rcases ho : okM m with _ | _
    · exact fback4 m a n cap zs c w hT hs h hn hc ho hd
    · exact fback3 m a n cap zs c w hT hs h hn hc ho hd
  · rcases ho : okM m with _ | _
    · exact fback2 m a n cap zs c 10 w hT hs h hn hc ho ⟨hd, by decide⟩
    · exact fback1 m a n cap zs c 10 w hT hs h hn hc ho ⟨hd, by decide⟩
  · rcases ho : okM m with _ | _
    · exact fback2 m a n cap zs c 190 w hT hs h hn hc ho ⟨hd, by decide⟩
    · exact fback1 m a n cap zs c 190 w hT hs h hn hc ho ⟨hd, by decide⟩
end Go.Proofs.YteeclghhoioapaaDoor

/-
  What is written is read back as the same message, whatever stands behind it, and whatever is read is just the frame of what it tells: FramesBack, of whatever message, bytes and place, up to 1048576 values and letters in all.
-/
namespace Go.Proofs.YteeclghhoioapaaDoor
open Go.ChangeShapes Go.WideShapes Go.ChangeAt Go.RowKit
set_option linter.unusedSimpArgs false
set_option linter.unusedVariables false

theorem framesBack_reads (os : Os) {H : Type} (enc : TypeId × Value → H) : ∃ places, DataW.whole enc Tryd.prog ((World.doorLaid Tryd.prog 14 os).forCall (fun _ _ => 0) ⟨#[], #[.agg #[.int .i64 0, .string ByteArray.empty, .int .i64 0, .int .i64 0, .int .i64 0, .int .i64 0, .string ByteArray.empty], .slice none 0 0, .int .i64 0], []⟩).memory Tryd.f6.params.toList Rows.framesBackSpec.vars false #[Value.agg #[.int .i64 0, .string ByteArray.empty, .int .i64 0, .int .i64 0, .int .i64 0, .int .i64 0, .string ByteArray.empty], .slice none 0 0, .int .i64 0].toList 8 = some ([.agg [.lit (.int .i64 0), .lit (.string []), .lit (.int .i64 0), .lit (.int .i64 0), .lit (.int .i64 0), .lit (.int .i64 0), .lit (.string [])], .nil, .lit (.int .i64 0)], [], places) :=
  ⟨[], by kernel_rfl⟩
theorem framesBack_met (os : Os) : laidMet Tryd.prog laidList ((World.doorLaid Tryd.prog 14 os).forCall (fun _ _ => 0) ⟨#[], #[.agg #[.int .i64 0, .string ByteArray.empty, .int .i64 0, .int .i64 0, .int .i64 0, .int .i64 0, .string ByteArray.empty], .slice none 0 0, .int .i64 0], []⟩).memory :=
  laidMet_of_run' 8 (by kernel_rfl) (by kernel_rfl)

set_option maxRecDepth 100000 in
theorem framesBack_liftedUpto (os : Os) (started : os.Started) (H : Type) (enc : TypeId × Value → H) (F : Stop.Interp) :
    ReturnsInHanded {} Tryd.checked os 6 .any ((Rows.OpenSpec.upto Rows.framesBackSpec).preRow enc Tryd.prog Tryd.f6 Rows.framesBackUptoRow.domain false Rows.framesBackUptoRow.laid) (((Rows.OpenSpec.upto Rows.framesBackSpec).at F).post enc Tryd.prog Tryd.f6 false true false false) := by
  obtain ⟨places, hx⟩ := framesBack_reads os enc
  refine returnsInHanded_of_row (C := Tryd.checked) (s := Rows.OpenSpec.upto Rows.framesBackSpec) own started (by kernel_rfl) Tryd.func6
    (witness_row_at (enc := enc) (C := Tryd.checked) false (World.doorLaid Tryd.prog 14 os) #[.agg #[.int .i64 0, .string ByteArray.empty, .int .i64 0, .int .i64 0, .int .i64 0, .int .i64 0, .string ByteArray.empty], .slice none 0 0, .int .i64 0] rfl (by kernel_rfl) (by kernel_rfl) (by kernel_rfl)
      (OpenSpec.preRow_of_cond 8 hx (by kernel_rfl) (fun k hk => by cases hk; kernel_rfl) (by kernel_rfl) (framesBack_met os))) ?_
  intro W base args ds gs before hval0 hW _ hcond hsz0 hL _ _
  have hval : ∀ (j : Nat) t v, Tryd.f6.params[j]? = some t → args[j]? = some v → Value.okWide Tryd.prog W .any base t v := hval0
  have hsz : (DataW.weightsEach Tryd.prog (Tryd.f6.params.toList ++ Rows.framesBackSpec.plain.varTypes Tryd.prog) (ds ++ gs)).all (· ≤ reachBytes) = true := hsz0
  have hbulk : Rows.uptoBulkAll (ds ++ gs) ≤ 1048576 := of_decide_eq_true (hcond _ rfl)
  have hW' := hW
  obtain ⟨p, q, hA0, hV, rfl, hfz, hnd⟩ := hW
  have hA : DataW.TrodAll enc Tryd.prog W 0 (fun _ => true) true Tryd.f6.params.toList args.toList ds p := hA0
  rw [Tryd.params6] at hA hval hsz
  obtain ⟨v0, vs0, d0, ds0, p0, q0, hargs, rfl, rfl, h0, r0⟩ := trodAll_cons hA
  obtain ⟨v1, vs1, d1, ds1, p1, q1, rfl, rfl, rfl, h1, r1⟩ := trodAll_cons r0
  obtain ⟨v2, vs2, d2, ds2, p2, q2, rfl, rfl, rfl, h2, r2⟩ := trodAll_cons r1
  obtain ⟨rfl, rfl, rfl⟩ := trodAll_nil r2
  obtain rfl : args = #[v0, v1, v2] := by cases args; simp_all
  obtain ⟨rfl, rfl⟩ := trodVars_none hV
  have k0 := h0
  have lt0 : ∀ x ∈ p0, x.block < W.heap.size := by obtain ⟨m, hm⟩ := k0; exact DataW.trod_lt m _ _ _ hm
  obtain ⟨m0, rfl, S0⟩ := open_ms (hval 0 23 v0 rfl rfl) h0 (j := 0) rfl hbulk
  obtain ⟨a1, len1, cap1, rfl⟩ := okWide_slice Tryd.underlying24 (hval 1 24 v1 rfl rfl)
  have k1 := h1
  have lt1 : ∀ x ∈ p1, x.block < W.heap.size := by obtain ⟨m, hm⟩ := k1; exact DataW.trod_lt m _ _ _ hm
  obtain ⟨z1, w1, c1, u1⟩ := open_bytes_upto h1 hsz (j := 1) rfl rfl hbulk
  have f1 := w1.fits
  obtain ⟨a2, rfl, rfl, rfl, w2⟩ := open_int Tryd.underlying3 (hval 2 3 v2 rfl rfl) h2
  have b2 := bounds_i64 w2
  clear hA0 hval0
  refine (fback_any m0 a1 len1 cap1 z1 a2 W (tab_of_laid hL) S0 w1 u1 b2).mono fun e W' ⟨he, bel⟩ => ?_
  subst he
  exact ⟨_, rfl, _, _, _, [], _, [], hW', trodAll_mk1 (shut_bool Tryd.underlying4 _), (trodAll_cons_mk (Below.trod laidOut (by kernel_rfl) (of_decide_eq_true (by kernel_rfl)) k0 bel lt0) (trodAll_cons_mk (Below.trod laidOut (by kernel_rfl) (of_decide_eq_true (by kernel_rfl)) k1 bel lt1) (trodAll_cons_mk (shut_int Tryd.underlying3 w2) trodAll_mk0))), rfl, bel.frame _, fun h => by cases h⟩

theorem framesBack_rowUpto : Rows.FramesBackUptoSaid :=
  OpenClaim.holds_of_cond 6 Tryd.f6 rfl rfl rfl rfl rfl rfl rfl ⟨rfl, rfl, rfl, rfl, rfl⟩ rfl rfl rfl rfl rfl (by kernel_rfl) Tryd.func6 (by kernel_rfl)
    (of_decide_eq_true (by kernel_rfl)) (by unfold Func.isWrapper; first | (rw [if_pos (by decide +kernel)]; kernel_rfl) | (rw [if_neg (by decide +kernel)]; exact ⟨rfl, rfl⟩))
    (fun os started H enc _ F => by rw [OpenClaim.pre_eq_preRow]; exact framesBack_liftedUpto os started H enc F)

theorem framesBack_holdsUpto : Rows.FramesBackUptoCardSaid :=
  Claim7.holds_tied_plain_at .later [] _ _ _ _
    framesBack_rowUpto (fun _ h => by cases h) (by kernel_rfl) (fun _ h => by cases h) framesBackUpto_row_tie rfl ⟨rfl, rfl⟩ (by kernel_rfl) rfl
    (fun f fn hf hfn => by
      obtain rfl : f = 6 := Option.some.inj ((show Tryd.prog.funcNamed Rows.framesBackUptoRow.func = some 6 by kernel_rfl).symm.trans hf) |>.symm
      obtain rfl : fn = Tryd.f6 := (Option.some.inj (Tryd.func6.symm.trans hfn)).symm
      exact ⟨by kernel_rfl, fun j t ht => by
        rw [Tryd.params6] at ht
        have hm : t ∈ [23, 24, 3] := by simpa using Array.mem_of_getElem? ht
        have hall : ([23, 24, 3].all fun u => !Tryd.prog.wantsStandIn u) = true := by kernel_rfl
        exact (show Tryd.prog.wantsStandIn t = false by simpa using List.all_eq_true.1 hall t hm)⟩)
    (by kernel_rfl)
#print axioms framesBack_holdsUpto
end Go.Proofs.YteeclghhoioapaaDoor
