/-
  Decode's walk, of a whole frame.
-/
import Derived.Test.YteeclghhoioapaaDoorDd
namespace Go.Proofs.YteeclghhoioapaaDoor
open Go.RowKit
set_option linter.unusedVariables false
set_option linter.unusedSimpArgs false
set_option maxRecDepth 100000
set_option maxHeartbeats 8000000 in
theorem decode5 (a : Option Addr) (n cap : Nat) (zs : List Int) (w : World) (h : Bs w a n cap zs) (hT : Tab w) (h4 : ¬ n < 4) (h5 : ¬ 131072 < lenM zs) (h6 : ¬ n < 8 + lenM zs) (h7 : isFr zs = true) (h8 : readM (payB zs) = none) :
    Calls Tryd.prog 13 #[.slice a n cap] w fun e w' => DecE w zs e w' := by
  have hE : decM zs = (zeroM, 0, 190) := by unfold decM; rw [if_neg (by rw [h.len]; exact h4), if_neg h5, if_neg (by rw [h.len]; exact h6), if_pos h7, h8]
  unfold DecE
  rw [hE]
  obtain ⟨L, hL⟩ : ∃ L : Int, (lenM zs : Int) = L := ⟨_, rfl⟩
  have hL32 : 0 ≤ L ∧ L < 4294967296 := by
    have h1 := lenM_val zs h.oct
    have h2 := val_bd _ (h.oct.take 4)
    have h3 : (zs.take 4).length ≤ 4 := by rw [List.length_take]; omega
    have := (by decide +kernel : ∀ v : Nat, v ≤ 4 → (256 : Int) ^ v ≤ 256 ^ 4) _ h3
    have h6 : (256 : Int) ^ 4 = 4294967296 := by decide
    omega
  have HLL : Hid (sgn (val (zs.take 4)) = L) := by
    have h1 := lenM_val zs h.oct
    show sgn _ = _
    unfold sgn; rw [if_pos (by omega), ← h1, hL]
  obtain ⟨hLa, hLb⟩ := hL32
  have h4i : (4 : Int) ≤ n := by omega
  have h4c : (4 : Int) ≤ cap := by have := h.fits; omega
  have h5i : L ≤ 131072 := by omega
  have h6i : 8 + L ≤ (n : Int) := by omega
  have h7i : 8 + L ≤ (cap : Int) := by have := h.fits; omega
  have HNN : Hid ((8 + L).toNat = 8 + lenM zs) := by show _ = _; omega
  have HNX : Hid True := trivial
  have HYES : Hid (IsRec (zs.take (8 + lenM zs)) (lenM zs) ∧ ∀ N, IsRec (zs.take (8 + lenM zs)) N → N = lenM zs) := ⟨(isFr_iff zs h.oct (by omega) (by rw [h.len]; omega)).1 h7, fun N hN => by
    have h8 := rec_len _ N (by rw [List.length_take, h.len]; omega) (h.oct.take _) hN
    rwa [lenM_take _ _ (by omega)] at h8⟩
  have HPB : Hid (((zs.take (8 + lenM zs)).drop 8).take (lenM zs) = payB zs) := by
    show _ = _
    unfold payB
    rw [List.drop_take, Nat.add_sub_cancel_left, List.take_take, Nat.min_self]
  have HPL : Hid ((payB zs).length = lenM zs) := by show _ = _; unfold payB; rw [List.length_take, List.length_drop, h.len]; omega
  have HPO : Hid (Octets (payB zs)) := (h.oct.drop 8).take _
  have HSM : Hid (lenM zs ≤ maxLen ∧ lenM zs ≤ 140737488355328) := ⟨by unfold maxLen; omega, by omega⟩
  have HS3 : Hid (lenM zs ≤ 131072) := by show _ ≤ _; omega
  obtain ⟨kind, name, ver, frm, non, err, text, hpr⟩ : ∃ kind name ver frm non err text, pread (payB zs) = ({ kind := kind, name := name, ver := ver, frm := frm, non := non, err := err, text := text }, false) := by
    have := (pread_read (payB zs) HPO.out).1
    rw [h8] at this
    exact ⟨_, _, _, _, _, _, _, this⟩
  have HPR := hideL hpr
  clear hpr h8
  have hD0 := Dh.start w
  have HD := hideL hD0
  have HT := hideL ((hT.below hD0.bel hT.pos))
  have HB := hideL (h.below hD0.bel)
  have hl := h.len; have hf := h.fits; have hcm := h.cap; unfold maxLen at hcm
  have HCF := hideL (And.intro hl hL)
  clear hE hD0 hT h hl hL h7
  have Hh5i := hideL h5i
  clear h5i
  have Hh6i := hideL h6i
  clear h6i
  have Hh7i := hideL h7i
  clear h7i
  have HhLa := hideL hLa
  clear hLa
  have HhLb := hideL hLb
  clear hLb
  simp only [mv, zeroM, mcs] at HD HT HB ⊢
  go_enter Tryd.func13, Tryd.ntmps13
  go_wp2_with fail
  refine wp_scope_once 0 rfl ?_
  go_upto_region 14 with (first
    | (go_at_call 33; have hq := HT; clear hq; have hq := HB.out.take 4 (by omega); refine (njoin_any a 4 cap (zs.take 4) _ hq.len hq.has hq.oct (by omega)).mono ?_; rintro e wb ⟨rfl, hb⟩; rw [HLL.out]; have HD1 := hideL (HD.out.below hb); have HT1 := hideL (HT.out.below hb HT.out.pos); have HB1 := hideL (HB.out.below hb); clear hq hb HD HT HB; have HD := HD1; clear HD1; obtain ⟨r0, r1, r2, r3, r4, r5, r6, q0, q1, q2, q3, q4, q5, q6⟩ := zero_cs HD.out.rx; have h5i := Hh5i.out; have h6i := Hh6i.out; have h7i := Hh7i.out; have hLa := HhLa.out; have hLb := HhLb.out)
    | (go_at_call 34; have hq := HNX; clear hq; rw [HNN.out]; have hq := HB1.out.take (8 + lenM zs) (by omega); refine (next_any a _ cap (zs.take (8 + lenM zs)) _ hq.len hq.has hq.fits hq.cap hq.oct HT1.out).mono ?_; rintro e wc ⟨hb, hx⟩; rcases hx with ⟨hx, -⟩ | ⟨N, g, hx, rfl, hg, hblk⟩; { exact (hx _ HYES.out.1).elim }; obtain rfl : N = lenM zs := HYES.out.2 N hx; rw [HPB.out] at hblk; have HD1 := hideL (HD.out.below hb); have HBL := hideL hblk; have hgl := (Array.getElem?_eq_some_iff.1 hblk).1; have HGL := hideL hgl; clear hq hb HD r0 r1 r2 r3 r4 r5 r6 q0 q1 q2 q3 q4 q5 q6 hx hg hblk hgl; have HD := HD1; clear HD1 HNX)
    | (go_at_call 35; refine (read_any (some ⟨g, 0, none⟩) (lenM zs) (lenM zs) (payB zs) _ ⟨HPL.out, .inr ⟨_, rfl, fun j hj => World.news_of_block HBL.out j _ (vals_get (payB zs) j hj)⟩, HPO.out, (fun h => by cases h), Nat.le_refl _, HSM.out.1, HSM.out.2⟩ (fun x hx => by cases hx; exact ⟨rfl, HGL.out⟩) (by have := HSM.out.2; have := HS3.out; omega)).mono ?_; rintro e wd ⟨rfl, hb⟩; rw [HPR.out]; have HD1 := hideL (HD.out.below hb); clear HD hb; have HD := HD1; clear HD1; obtain ⟨r0, r1, r2, r3, r4, r5, r6, q0, q1, q2, q3, q4, q5, q6⟩ := zero_cs HD.out.rx; obtain ⟨s0, s1, s2, s3, s4, s5, s6, u0, u1, u2, u3, u4, u5, u6⟩ := zero_cs HD.out.mx; simp only [mv]))
  have hQ := put7_spec (R := w.heap.size + 1) HD.out.mx (.int .i64 kind) (.string name) (.int .i64 ver) (.int .i64 frm) (.int .i64 non) (.int .i64 err) (.string text)
  have hrx := (hQ.2.block w.heap.size (Array.getElem?_eq_some_iff.1 HD.out.rx).1 (by omega)).trans HD.out.rx
  have hbl := Bt.under HD.out.bel hQ.2 (by omega)
  unfold put7 at hQ hrx hbl
  obtain ⟨V, hV⟩ : ∃ V, (((((((wd.setCell ⟨w.heap.size + 1, 0, none⟩ (.int .i64 kind)).setCell ⟨w.heap.size + 1, 1, none⟩ (.string name)).setCell ⟨w.heap.size + 1, 2, none⟩ (.int .i64 ver)).setCell ⟨w.heap.size + 1, 3, none⟩ (.int .i64 frm)).setCell ⟨w.heap.size + 1, 4, none⟩ (.int .i64 non)).setCell ⟨w.heap.size + 1, 5, none⟩ (.int .i64 err)).setCell ⟨w.heap.size + 1, 6, none⟩ (.string text)) = V := ⟨_, rfl⟩
  rw [hV] at hQ hrx hbl ⊢
  clear r0 r1 r2 r3 r4 r5 r6 q0 q1 q2 q3 q4 q5 q6 s0 s1 s2 s3 s4 s5 s6 u0 u1 u2 u3 u4 u5 u6 hV
  obtain ⟨s0, s1, s2, s3, s4, s5, s6⟩ := p7 hQ.1
  obtain ⟨r0, r1, r2, r3, r4, r5, r6, q0, q1, q2, q3, q4, q5, q6⟩ := zero_cs hrx
  have HRX := hideL hrx
  have HBL := hideL hbl
  clear hQ hrx hbl
  go_wp2_with fail
  go_step3
  go_wp2_with fail
  refine jump_goto ?_
  go_wp2_with fail
  have hP := put7_spec (R := w.heap.size) HRX.out (.int .i64 0) (.string ⟨#[]⟩) (.int .i64 0) (.int .i64 0) (.int .i64 0) (.int .i64 0) (.string ⟨#[]⟩)
  have hO := hideL (Bt.under HBL.out hP.2 (Nat.le_refl _))
  unfold put7 at hP hO
  obtain ⟨V7, hV7⟩ : ∃ V7, (((((((V.setCell ⟨w.heap.size, 0, none⟩ (.int .i64 0)).setCell ⟨w.heap.size, 1, none⟩ (.string ⟨#[]⟩)).setCell ⟨w.heap.size, 2, none⟩ (.int .i64 0)).setCell ⟨w.heap.size, 3, none⟩ (.int .i64 0)).setCell ⟨w.heap.size, 4, none⟩ (.int .i64 0)).setCell ⟨w.heap.size, 5, none⟩ (.int .i64 0)).setCell ⟨w.heap.size, 6, none⟩ (.string ⟨#[]⟩)) = V7 := ⟨_, rfl⟩
  rw [hV7] at hP hO ⊢
  obtain ⟨p0, p1, p2, p3, p4, p5, p6⟩ := p7 hP.1
  rw [Exit.noGoto_ret]
  refine bodyPost_ret (v := .tuple #[.agg #[.int .i64 0, .string ⟨#[]⟩, .int .i64 0, .int .i64 0, .int .i64 0, .int .i64 0, .string ⟨#[]⟩], .int .i64 0, .int .i64 190]) (by simp [results, Tryd.results13, go_sem, p0, p1, p2, p3, p4, p5, p6] <;> rfl) rfl ⟨rfl, hO.out⟩
set_option maxHeartbeats 8000000 in
theorem decode6 (a : Option Addr) (n cap : Nat) (zs : List Int) (w : World) (h : Bs w a n cap zs) (hT : Tab w) (h4 : ¬ n < 4) (h5 : ¬ 131072 < lenM zs) (h6 : ¬ n < 8 + lenM zs) (h7 : isFr zs = true) (m : Ms) (h8 : readM (payB zs) = some m) :
    Calls Tryd.prog 13 #[.slice a n cap] w fun e w' => DecE w zs e w' := by
  have hE : decM zs = (m, 8 + (lenM zs : Int), 0) := by unfold decM; rw [if_neg (by rw [h.len]; exact h4), if_neg h5, if_neg (by rw [h.len]; exact h6), if_pos h7, h8]
  unfold DecE
  rw [hE]
  obtain ⟨L, hL⟩ : ∃ L : Int, (lenM zs : Int) = L := ⟨_, rfl⟩
  have hL32 : 0 ≤ L ∧ L < 4294967296 := by
    have h1 := lenM_val zs h.oct
    have h2 := val_bd _ (h.oct.take 4)
    have h3 : (zs.take 4).length ≤ 4 := by rw [List.length_take]; omega
    have := (by decide +kernel : ∀ v : Nat, v ≤ 4 → (256 : Int) ^ v ≤ 256 ^ 4) _ h3
    have h6 : (256 : Int) ^ 4 = 4294967296 := by decide
    omega
  have HLL : Hid (sgn (val (zs.take 4)) = L) := by
    have h1 := lenM_val zs h.oct
    show sgn _ = _
    unfold sgn; rw [if_pos (by omega), ← h1, hL]
  obtain ⟨hLa, hLb⟩ := hL32
  have h4i : (4 : Int) ≤ n := by omega
  have h4c : (4 : Int) ≤ cap := by have := h.fits; omega
  have h5i : L ≤ 131072 := by omega
  have h6i : 8 + L ≤ (n : Int) := by omega
  have h7i : 8 + L ≤ (cap : Int) := by have := h.fits; omega
  have HNN : Hid ((8 + L).toNat = 8 + lenM zs) := by show _ = _; omega
  have HNX : Hid True := trivial
  have HYES : Hid (IsRec (zs.take (8 + lenM zs)) (lenM zs) ∧ ∀ N, IsRec (zs.take (8 + lenM zs)) N → N = lenM zs) := ⟨(isFr_iff zs h.oct (by omega) (by rw [h.len]; omega)).1 h7, fun N hN => by
    have h8 := rec_len _ N (by rw [List.length_take, h.len]; omega) (h.oct.take _) hN
    rwa [lenM_take _ _ (by omega)] at h8⟩
  have HPB : Hid (((zs.take (8 + lenM zs)).drop 8).take (lenM zs) = payB zs) := by
    show _ = _
    unfold payB
    rw [List.drop_take, Nat.add_sub_cancel_left, List.take_take, Nat.min_self]
  have HPL : Hid ((payB zs).length = lenM zs) := by show _ = _; unfold payB; rw [List.length_take, List.length_drop, h.len]; omega
  have HPO : Hid (Octets (payB zs)) := (h.oct.drop 8).take _
  have HSM : Hid (lenM zs ≤ maxLen ∧ lenM zs ≤ 140737488355328) := ⟨by unfold maxLen; omega, by omega⟩
  have HS3 : Hid (lenM zs ≤ 131072) := by show _ ≤ _; omega
  obtain ⟨kind, name, ver, frm, non, err, text⟩ := m
  have hpr : pread (payB zs) = ({ kind := kind, name := name, ver := ver, frm := frm, non := non, err := err, text := text }, true) := says_pread _ _ (readM_says _ _ h8)
  have HPR := hideL hpr
  clear hpr h8
  have hD0 := Dh.start w
  have HD := hideL hD0
  have HT := hideL ((hT.below hD0.bel hT.pos))
  have HB := hideL (h.below hD0.bel)
  have hl := h.len; have hf := h.fits; have hcm := h.cap; unfold maxLen at hcm
  have HCF := hideL (And.intro hl hL)
  clear hE hD0 hT h hl hL h7
  have Hh5i := hideL h5i
  clear h5i
  have Hh6i := hideL h6i
  clear h6i
  have Hh7i := hideL h7i
  clear h7i
  have HhLa := hideL hLa
  clear hLa
  have HhLb := hideL hLb
  clear hLb
  simp only [mv, zeroM, mcs] at HD HT HB ⊢
  go_enter Tryd.func13, Tryd.ntmps13
  go_wp2_with fail
  refine wp_scope_once 0 rfl ?_
  go_upto_region 14 with (first
    | (go_at_call 33; have hq := HT; clear hq; have hq := HB.out.take 4 (by omega); refine (njoin_any a 4 cap (zs.take 4) _ hq.len hq.has hq.oct (by omega)).mono ?_; rintro e wb ⟨rfl, hb⟩; rw [HLL.out]; have HD1 := hideL (HD.out.below hb); have HT1 := hideL (HT.out.below hb HT.out.pos); have HB1 := hideL (HB.out.below hb); clear hq hb HD HT HB; have HD := HD1; clear HD1; obtain ⟨r0, r1, r2, r3, r4, r5, r6, q0, q1, q2, q3, q4, q5, q6⟩ := zero_cs HD.out.rx; have h5i := Hh5i.out; have h6i := Hh6i.out; have h7i := Hh7i.out; have hLa := HhLa.out; have hLb := HhLb.out)
    | (go_at_call 34; have hq := HNX; clear hq; rw [HNN.out]; have hq := HB1.out.take (8 + lenM zs) (by omega); refine (next_any a _ cap (zs.take (8 + lenM zs)) _ hq.len hq.has hq.fits hq.cap hq.oct HT1.out).mono ?_; rintro e wc ⟨hb, hx⟩; rcases hx with ⟨hx, -⟩ | ⟨N, g, hx, rfl, hg, hblk⟩; { exact (hx _ HYES.out.1).elim }; obtain rfl : N = lenM zs := HYES.out.2 N hx; rw [HPB.out] at hblk; have HD1 := hideL (HD.out.below hb); have HBL := hideL hblk; have hgl := (Array.getElem?_eq_some_iff.1 hblk).1; have HGL := hideL hgl; clear hq hb HD r0 r1 r2 r3 r4 r5 r6 q0 q1 q2 q3 q4 q5 q6 hx hg hblk hgl; have HD := HD1; clear HD1 HNX)
    | (go_at_call 35; refine (read_any (some ⟨g, 0, none⟩) (lenM zs) (lenM zs) (payB zs) _ ⟨HPL.out, .inr ⟨_, rfl, fun j hj => World.news_of_block HBL.out j _ (vals_get (payB zs) j hj)⟩, HPO.out, (fun h => by cases h), Nat.le_refl _, HSM.out.1, HSM.out.2⟩ (fun x hx => by cases hx; exact ⟨rfl, HGL.out⟩) (by have := HSM.out.2; have := HS3.out; omega)).mono ?_; rintro e wd ⟨rfl, hb⟩; rw [HPR.out]; have HD1 := hideL (HD.out.below hb); clear HD hb; have HD := HD1; clear HD1; obtain ⟨r0, r1, r2, r3, r4, r5, r6, q0, q1, q2, q3, q4, q5, q6⟩ := zero_cs HD.out.rx; obtain ⟨s0, s1, s2, s3, s4, s5, s6, u0, u1, u2, u3, u4, u5, u6⟩ := zero_cs HD.out.mx; simp only [mv]))
  have hQ := put7_spec (R := w.heap.size + 1) HD.out.mx (.int .i64 kind) (.string name) (.int .i64 ver) (.int .i64 frm) (.int .i64 non) (.int .i64 err) (.string text)
  have hrx := (hQ.2.block w.heap.size (Array.getElem?_eq_some_iff.1 HD.out.rx).1 (by omega)).trans HD.out.rx
  have hbl := Bt.under HD.out.bel hQ.2 (by omega)
  unfold put7 at hQ hrx hbl
  obtain ⟨V, hV⟩ : ∃ V, (((((((wd.setCell ⟨w.heap.size + 1, 0, none⟩ (.int .i64 kind)).setCell ⟨w.heap.size + 1, 1, none⟩ (.string name)).setCell ⟨w.heap.size + 1, 2, none⟩ (.int .i64 ver)).setCell ⟨w.heap.size + 1, 3, none⟩ (.int .i64 frm)).setCell ⟨w.heap.size + 1, 4, none⟩ (.int .i64 non)).setCell ⟨w.heap.size + 1, 5, none⟩ (.int .i64 err)).setCell ⟨w.heap.size + 1, 6, none⟩ (.string text)) = V := ⟨_, rfl⟩
  rw [hV] at hQ hrx hbl ⊢
  clear r0 r1 r2 r3 r4 r5 r6 q0 q1 q2 q3 q4 q5 q6 s0 s1 s2 s3 s4 s5 s6 u0 u1 u2 u3 u4 u5 u6 hV
  obtain ⟨s0, s1, s2, s3, s4, s5, s6⟩ := p7 hQ.1
  obtain ⟨r0, r1, r2, r3, r4, r5, r6, q0, q1, q2, q3, q4, q5, q6⟩ := zero_cs hrx
  have HRX := hideL hrx
  have HBL := hideL hbl
  clear hQ hrx hbl
  go_wp2_with fail
  refine jump_ret ?_
  have hP := put7_spec (R := w.heap.size) HRX.out (.int .i64 kind) (.string name) (.int .i64 ver) (.int .i64 frm) (.int .i64 non) (.int .i64 err) (.string text)
  have hO := hideL (Bt.under HBL.out hP.2 (Nat.le_refl _))
  unfold put7 at hP hO
  obtain ⟨V7, hV7⟩ : ∃ V7, (((((((V.setCell ⟨w.heap.size, 0, none⟩ (.int .i64 kind)).setCell ⟨w.heap.size, 1, none⟩ (.string name)).setCell ⟨w.heap.size, 2, none⟩ (.int .i64 ver)).setCell ⟨w.heap.size, 3, none⟩ (.int .i64 frm)).setCell ⟨w.heap.size, 4, none⟩ (.int .i64 non)).setCell ⟨w.heap.size, 5, none⟩ (.int .i64 err)).setCell ⟨w.heap.size, 6, none⟩ (.string text)) = V7 := ⟨_, rfl⟩
  rw [hV7] at hP hO ⊢
  obtain ⟨p0, p1, p2, p3, p4, p5, p6⟩ := p7 hP.1
  refine bodyPost_ret (v := .tuple #[.agg #[.int .i64 kind, .string name, .int .i64 ver, .int .i64 frm, .int .i64 non, .int .i64 err, .string text], .int .i64 (8 + L), .int .i64 0]) (by simp [results, Tryd.results13, go_sem, p0, p1, p2, p3, p4, p5, p6]) rfl ⟨by rw [← HCF.out.2], hO.out⟩
theorem decode_any (a : Option Addr) (n cap : Nat) (zs : List Int) (w : World) (h : Bs w a n cap zs) (hT : Tab w) :
    Calls Tryd.prog 13 #[.slice a n cap] w fun e w' => DecE w zs e w' := by
  by_cases h4 : n < 4
  · exact decode1 a n cap zs w h h4
  by_cases h5 : 131072 < lenM zs
  · exact decode2 a n cap zs w h hT h4 h5
  by_cases h6 : n < 8 + lenM zs
  · exact decode3 a n cap zs w h hT h4 h5 h6
  by_cases h7 : isFr zs = true
  · rcases h8 : readM (payB zs) with _ | m
    · exact decode5 a n cap zs w h hT h4 h5 h6 h7 h8
    · exact decode6 a n cap zs w h hT h4 h5 h6 h7 m h8
  · exact decode4 a n cap zs w h hT h4 h5 h6 h7
end Go.Proofs.YteeclghhoioapaaDoor
