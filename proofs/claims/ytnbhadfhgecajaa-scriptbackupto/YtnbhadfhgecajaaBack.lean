/-
  The walk of ScriptBack.
-/
import Derived.Test.YtnbhadfhgecajaaTotal
namespace Go.Proofs.Ytnbhadfhgecajaa
open Go.RowKit
set_option linter.unusedVariables false

theorem pair_steps {w W : World} {b off : Nat} {ss : List St} (hb : b < w.heap.size) (he : ∀ (i : Nat) (s : St), ss[i]? = some s → ∀ (j : Nat) (u : Value), s.cells[j]? = some u → w.cell? ⟨b, off + i * 4 + j, none⟩ = some u) (hW : Below w.heap.size w W) (i : Nat) (s : St) (hs : ss[i]? = some s) :
    W.cell? ⟨b, off + i * 4, none⟩ = some (.int .i64 s.op) ∧ W.cell? ⟨b, off + i * 4 + 1, none⟩ = some (.int .i64 s.x) ∧ W.cell? ⟨b, off + i * 4 + 2, none⟩ = some (.int .i64 s.y) ∧ W.cell? ⟨b, off + i * 4 + 3, none⟩ = some s.d.val :=
  ⟨(hW.cell (p := ⟨b, _, none⟩) hb).trans (he i s hs 0 _ rfl), (hW.cell (p := ⟨b, _, none⟩) hb).trans (he i s hs 1 _ rfl), (hW.cell (p := ⟨b, _, none⟩) hb).trans (he i s hs 2 _ rfl), (hW.cell (p := ⟨b, _, none⟩) hb).trans (he i s hs 3 _ rfl)⟩
theorem LS.below {w W : World} {a : Option Addr} {ss : List St} (h : LS w a ss) (hb : Below w.heap.size w W) : LS W a ss := by
  refine ⟨fun s hs => (h.1 s hs).below hb, ?_⟩
  rcases h.2 with h | ⟨b, off, rfl, e⟩
  · exact .inl h
  · exact .inr ⟨b, off, rfl, fun i s hi j u hu => (hb.cell (p := ⟨b, _, none⟩) (by have := World.block_lt_of_cell? w _ (e i s hi j u hu); simpa using this)).trans (e i s hi j u hu)⟩
theorem five_sum (l : List St) : 5 * l.length ≤ (l.map fun s => 5 + s.d.n).sum := by
  induction l with
  | nil => simp
  | cons x r ih => simp; omega
theorem row_len (zs : List Int) (xs : List Told) (h : Row1 zs 0 xs) : xs.length ≤ zs.length := by
  have h1 := row_sum zs xs 0 h
  have h2 := five_sum (xs.map (·.s))
  rw [List.length_map] at h2
  omega

set_option maxRecDepth 100000 in
set_option maxHeartbeats 8000000 in
theorem back_any (al : Option Addr) (nl cl : Nat) (ss : List St) (a : Option Addr) (n cap : Nat) (zs : List Int) (w : World) (hnl : ss.length = nl) (hL : LS w al ss) (hsum : (ss.map fun s => 5 + s.d.n).sum ≤ 1048576) (hP : Bs w a n cap zs) (hl : n ≤ 1048576) :
    Calls Try.prog 5 #[.slice al nl cl, .slice a n cap] w fun e w' => e = .returned (.bool true) ∧ Below w.heap.size w w' := by
  obtain ⟨i0, hi, hz0, hz1, hz2⟩ := info_parts Try.info5
  have hnl2 : nl ≤ 1048576 := by have := five_sum ss; omega
  go_enter Try.func5, Try.ntmps5
  go_wp2_with fail
  refine (awake_any _).mono ?_
  rintro e wA ⟨rfl, hbA⟩
  have LA : LS wA al ss := hL.below hbA
  go_wp2_with fail
  refine (encode_any al nl cl ss _ hnl LA (by omega)).mono ?_
  rintro e wE ⟨hbE, hE⟩
  have BE : Below w.heap.size w wE := hbA.trans (hbE.mono hbA.size)
  rcases hE with ⟨hmay, vE, rfl, hownE⟩ | ⟨_, rfl⟩
  rotate_left
  · go_wp2
    go_ret
    exact ⟨rfl, BE⟩
  have hmay2 : ∀ s ∈ ss, MayBe s ∧ Octets s.d.zs ∧ s.d.zs.length = s.d.n ∧ s.d.n ≤ 65535 := fun s h => by
    have h1 := hL.1 s h
    have h2 := hmay s h
    refine ⟨h2, h1.oct, h1.len, ?_⟩
    have := h2.2.2.2
    split at this <;> omega
  have hFo : Octets (formAll ss) := formAll_octets ss (fun s h => ⟨(hmay2 s h).1, (hmay2 s h).2.1, (hmay2 s h).2.2.2⟩)
  have hFl : (formAll ss).length ≤ 1048576 := by
    have := formAll_small ss (fun s h => (hmay2 s h).2.2.1) ss.length
    rw [List.take_length] at this; omega
  obtain ⟨aE, cE, rfl, hBE⟩ := own_bs hownE hFo (by omega)
  have PE := hP.below BE
  have HPE : Hid (Bs wE a n cap zs) := PE
  have HBE : Hid (Bs wE aE (formAll ss).length cE (formAll ss)) := hBE
  obtain ⟨L, hLe⟩ : ∃ L, (formAll ss).length = L := ⟨_, rfl⟩
  rw [hLe] at hFl HBE hBE ⊢
  have HLe : Hid ((formAll ss).length = L) := hLe
  clear hLe hownE
  have B1 : Hid (Below wE.heap.size wE (wE.alloc (.cells #[] 5))) := (Below.refl _ wE).alloc (Nat.le_refl _) _
  have HO : Hid ((wE.alloc (.cells #[] 5)).ownsRow wE.heap.size 5 1 (.slice (some ⟨wE.heap.size, 0, none⟩) 0 0) 0 []) := World.ownsRow_lit wE _ 0 (Nat.le_refl _) (by decide) rfl
  go_upto_region 6 with fail
  go_cut [7] (fun v wc => ∃ (xs : List Told) (av : Option Addr) (cv : Nat), v = .slice av xs.length cv ∧ DL wc wE.heap.size av cv (formAll ss ++ zs) xs ∧ Below wE.heap.size wE wc)
  case first =>
    have HNz : Hid (zs.length = n) := PE.len
    rcases hBE.has with ⟨ha1, hF⟩ | ⟨x1, ha1, hx1⟩
    · subst ha1
      obtain rfl := hBE.bare rfl
      have hL0 : L = 0 := by have := hBE.len; rw [hF] at this; simpa using this.symm
      subst hL0
      have HF : Hid (formAll ss = []) := hF
      clear hF
      rcases PE.has with ⟨ha2, hzs⟩ | ⟨x2, ha2, hx2⟩
      · subst ha2
        obtain rfl := PE.bare rfl
        subst hzs
        have hn0 : n = 0 := by have := PE.len; simpa using this.symm
        subst hn0
        go_wp2_with (first | (at_builtin; refine wpList_append_own_none rfl (.tmp 23) (.tmp 24) 22 rfl wE.heap.size 5 i0 1 Try.underlying22 hi (.slice (some ⟨wE.heap.size, 0, none⟩) 0 0) 0 [] rfl HO.out rfl ?_) | (at_builtin; refine wpList_append_own_none rfl (.tmp 25) (.tmp 26) 22 rfl wE.heap.size 5 i0 1 Try.underlying22 hi (.slice (some ⟨wE.heap.size, 0, none⟩) 0 0) 0 ([]) rfl HO.out rfl ?_))
        refine (decode_dl (some ⟨wE.heap.size, 0, none⟩) 0 0 [] _ ⟨rfl, .inr ⟨_, rfl, fun j hj => by simp at hj⟩, Octets.nil, (fun h => by cases h), Nat.le_refl _, by decide, by decide⟩ (by decide)).mono ?_
        rintro e wD ⟨xs, av, cv, rfl, hD, hbD⟩
        have HD : Hid (DL wD wE.heap.size av cv (formAll ss ++ ([] : List Int)) xs) := ⟨by rw [HF.out]; exact hD.all, own_low' hD.own B1.out.size, fun x hx => own_base (hD.lies x hx) B1.out.size⟩
        have HB : Hid (Below wE.heap.size wE wD) := B1.out.trans (hbD.mono B1.out.size)
        clear hD hbD
        go_wp2_with fail
        go_meet
        case rel => exact ⟨xs, av, cv, rfl, HD.out, HB.out⟩
      · subst ha2
        have N2 : Hid (∀ j u, (vals zs)[j]? = some u → (wE.alloc (.cells #[] 5)).cell? (x2.add j) = some u) := has_news PE.has B1.out
        go_wp2_with (first | (at_builtin; refine wpList_append_own_none rfl (.tmp 23) (.tmp 24) 22 rfl wE.heap.size 5 i0 1 Try.underlying22 hi (.slice (some ⟨wE.heap.size, 0, none⟩) 0 0) 0 [] rfl HO.out rfl ?_) | (at_builtin; refine wpList_append_own _ rfl (.tmp 25) (.tmp 26) 22 rfl wE.heap.size 5 i0 (.int .u8 0) 1 1 Try.underlying22 hi hz0 hz1 hz2 rfl (by decide) (.slice (some ⟨wE.heap.size, 0, none⟩) 0 0) 0 [] rfl HO.out x2 n cap (vals zs) rfl (by rw [vals_length, HNz.out]; omega) N2.out (vals_one _) (by unfold maxLen; omega) (by omega) (by simp) ?_; intro v2 w2 hown2 hgrow2 _; have B3 : Hid (Below wE.heap.size wE w2) := B1.out.grown hgrow2 B1.out.size (fun k h => by simp [Value.ownBlock] at h; omega); rw [Nat.zero_add, List.nil_append] at hown2; obtain ⟨a2, c2, hv2, hB2⟩ := own_bs hown2 HPE.out.oct (by omega); subst hv2; have HB2 : Hid (Bs w2 a2 n c2 zs) := hB2; clear hown2 hgrow2 hB2))
        refine (decode_dl a2 n c2 zs _ HB2.out (by omega)).mono ?_
        rintro e wD ⟨xs, av, cv, rfl, hD, hbD⟩
        have HD : Hid (DL wD wE.heap.size av cv (formAll ss ++ zs) xs) := ⟨by rw [HF.out, List.nil_append]; exact hD.all, own_low' hD.own B3.out.size, fun x hx => own_base (hD.lies x hx) B3.out.size⟩
        have HB : Hid (Below wE.heap.size wE wD) := B3.out.trans (hbD.mono B3.out.size)
        clear hD hbD
        go_wp2_with fail
        go_meet
        case rel => exact ⟨xs, av, cv, rfl, HD.out, HB.out⟩
    · subst ha1
      have N1 : Hid (∀ j u, (vals (formAll ss))[j]? = some u → (wE.alloc (.cells #[] 5)).cell? (x1.add j) = some u) := has_news hBE.has B1.out
      rcases PE.has with ⟨ha2, hzs⟩ | ⟨x2, ha2, hx2⟩
      · subst ha2
        obtain rfl := PE.bare rfl
        subst hzs
        have hn0 : n = 0 := by have := PE.len; simpa using this.symm
        subst hn0
        go_wp2_with (first | (at_builtin; refine wpList_append_own _ rfl (.tmp 23) (.tmp 24) 22 rfl wE.heap.size 5 i0 (.int .u8 0) 1 1 Try.underlying22 hi hz0 hz1 hz2 rfl (by decide) (.slice (some ⟨wE.heap.size, 0, none⟩) 0 0) 0 [] rfl HO.out x1 L cE (vals (formAll ss)) rfl (by rw [vals_length, HLe.out]; omega) N1.out (vals_one _) (by unfold maxLen; omega) (by omega) (by simp) ?_; intro v1 w1 hown1 hgrow1 _; have B2 : Hid (Below wE.heap.size wE w1) := B1.out.grown hgrow1 B1.out.size (fun k h => by simp [Value.ownBlock] at h; omega); rw [Nat.zero_add, List.nil_append] at hown1; obtain ⟨a1, c1, hv1, hB1⟩ := own_bs hown1 hFo (by omega); subst hv1; have O1 : Hid (w1.ownsRow wE.heap.size 5 1 (.slice a1 L c1) L (vals (formAll ss))) := hown1; clear hown1 hgrow1 hB1) | (at_builtin; refine wpList_append_own_none rfl (.tmp 25) (.tmp 26) 22 rfl wE.heap.size 5 i0 1 Try.underlying22 hi (.slice a1 L c1) L (vals (formAll ss)) rfl O1.out rfl ?_))
        obtain ⟨a3, c3, hv3, hB3⟩ := own_bs O1.out hFo (by omega)
        cases hv3
        refine (decode_dl a1 L c1 (formAll ss) _ hB3 (by omega)).mono ?_
        rintro e wD ⟨xs, av, cv, rfl, hD, hbD⟩
        have HD : Hid (DL wD wE.heap.size av cv (formAll ss ++ ([] : List Int)) xs) := ⟨by rw [List.append_nil]; exact hD.all, own_low' hD.own B2.out.size, fun x hx => own_base (hD.lies x hx) B2.out.size⟩
        have HB : Hid (Below wE.heap.size wE wD) := B2.out.trans (hbD.mono B2.out.size)
        clear hD hbD
        go_wp2_with fail
        go_meet
        case rel => exact ⟨xs, av, cv, rfl, HD.out, HB.out⟩
      · subst ha2
        go_wp2_with (first | (at_builtin; refine wpList_append_own _ rfl (.tmp 23) (.tmp 24) 22 rfl wE.heap.size 5 i0 (.int .u8 0) 1 1 Try.underlying22 hi hz0 hz1 hz2 rfl (by decide) (.slice (some ⟨wE.heap.size, 0, none⟩) 0 0) 0 [] rfl HO.out x1 L cE (vals (formAll ss)) rfl (by rw [vals_length, HLe.out]; omega) N1.out (vals_one _) (by unfold maxLen; omega) (by omega) (by simp) ?_; intro v1 w1 hown1 hgrow1 _; have B2 : Hid (Below wE.heap.size wE w1) := B1.out.grown hgrow1 B1.out.size (fun k h => by simp [Value.ownBlock] at h; omega); rw [Nat.zero_add, List.nil_append] at hown1; obtain ⟨a1, c1, hv1, hB1⟩ := own_bs hown1 hFo (by omega); subst hv1; have O1 : Hid (w1.ownsRow wE.heap.size 5 1 (.slice a1 L c1) L (vals (formAll ss))) := hown1; clear hown1 hgrow1 hB1; have N2 : Hid (∀ j u, (vals zs)[j]? = some u → w1.cell? (x2.add j) = some u) := has_news HPE.out.has B2.out) | (at_builtin; refine wpList_append_own _ rfl (.tmp 25) (.tmp 26) 22 rfl wE.heap.size 5 i0 (.int .u8 0) 1 1 Try.underlying22 hi hz0 hz1 hz2 rfl (by decide) (.slice a1 L c1) L (vals (formAll ss)) rfl O1.out x2 n cap (vals zs) rfl (by rw [vals_length, HNz.out]; omega) N2.out (vals_one _) (by unfold maxLen; omega) (by omega) B2.out.size ?_; intro v2 w2 hown2 hgrow2 _; have B3 : Hid (Below wE.heap.size wE w2) := B2.out.grown hgrow2 B2.out.size (fun k h => (O1.out.lt k h).1); rw [← vals_append] at hown2; obtain ⟨a2, c2, hv2, hB2⟩ := own_bs hown2 (hFo.append HPE.out.oct) (by omega); subst hv2; have HB2 : Hid (Bs w2 a2 (L + n) c2 (formAll ss ++ zs)) := hB2; clear hown2 hgrow2 hB2))
        refine (decode_dl a2 (L + n) c2 (formAll ss ++ zs) _ HB2.out (by omega)).mono ?_
        rintro e wD ⟨xs, av, cv, rfl, hD, hbD⟩
        have HD : Hid (DL wD wE.heap.size av cv (formAll ss ++ zs) xs) := ⟨hD.all, own_low' hD.own B3.out.size, fun x hx => own_base (hD.lies x hx) B3.out.size⟩
        have HB : Hid (Below wE.heap.size wE wD) := B3.out.trans (hbD.mono B3.out.size)
        clear hD hbD
        go_wp2_with fail
        go_meet
        case rel => exact ⟨xs, av, cv, rfl, HD.out, HB.out⟩
  case rest =>
    obtain ⟨xs, av, cv, rfl, hD, hbc⟩ := hcut
    rename World => w4
    have BC : Below w.heap.size w w4 := BE.trans (hbc.mono BE.size)
    have PC := hP.below BC
    have HPC : Hid (Bs w4 a n cap zs) := PC
    have HD1 : Hid (DL w4 wE.heap.size av cv (formAll ss ++ zs) xs) := hD
    clear hD hbc HBE hBE HPE PE B1 HO
    go_upto_region 7 with fail
    go_cut [8] (fun v wd => ∃ (ys : List Told) (ar : Option Addr) (cr : Nat), v = .slice ar ys.length cr ∧ DL wd w4.heap.size ar cr zs ys ∧ Below w4.heap.size w4 wd)
    case first =>
      have HO : Hid ((w4.alloc (.cells #[] 5)).ownsRow w4.heap.size 5 1 (.slice (some ⟨w4.heap.size, 0, none⟩) 0 0) 0 []) := World.ownsRow_lit w4 _ 0 (Nat.le_refl _) (by decide) rfl
      have B1 : Hid (Below w4.heap.size w4 (w4.alloc (.cells #[] 5))) := (Below.refl _ w4).alloc (Nat.le_refl _) _
      rcases PC.has with ⟨ha, hzs⟩ | ⟨x, ha, hx⟩
      · subst ha
        obtain rfl := PC.bare rfl
        subst hzs
        have hn0 : n = 0 := by have := PC.len; simpa using this.symm
        subst hn0
        go_wp2_with (at_builtin; refine wpList_append_own_none rfl (.tmp 29) (.tmp 30) 22 rfl w4.heap.size 5 i0 1 Try.underlying22 hi (.slice (some ⟨w4.heap.size, 0, none⟩) 0 0) 0 [] rfl HO.out rfl ?_)
        refine (decode_dl (some ⟨w4.heap.size, 0, none⟩) 0 0 [] _ ⟨rfl, .inr ⟨_, rfl, fun j hj => by simp at hj⟩, Octets.nil, (fun h => by cases h), Nat.le_refl _, by decide, by decide⟩ (by decide)).mono ?_
        rintro e w1 ⟨ys, ar, cr, rfl, hD, hb1⟩
        have HD : Hid (DL w1 w4.heap.size ar cr [] ys) := ⟨hD.all, own_low' hD.own (by simp), fun x hx => own_base (hD.lies x hx) (by simp)⟩
        have HB : Hid (Below w4.heap.size w4 w1) := B1.out.trans (hb1.mono B1.out.size)
        clear hD hb1
        go_wp2_with fail
        go_meet
        case rel => exact ⟨ys, ar, cr, rfl, HD.out, HB.out⟩
      · subst ha
        have HN : Hid (zs.length = n) := PC.len
        have N1 : Hid (∀ j u, (vals zs)[j]? = some u → (w4.alloc (.cells #[] 5)).cell? (x.add j) = some u) := has_news PC.has B1.out
        go_wp2_with (at_builtin; refine wpList_append_own _ rfl (.tmp 29) (.tmp 30) 22 rfl w4.heap.size 5 i0 (.int .u8 0) 1 1 Try.underlying22 hi hz0 hz1 hz2 rfl (by decide) (.slice (some ⟨w4.heap.size, 0, none⟩) 0 0) 0 [] rfl HO.out x n cap (vals zs) rfl (by rw [vals_length, HN.out]; omega) N1.out (vals_one _) (by unfold maxLen; omega) (by omega) (by simp) ?_; intro v1 w1 hown1 hgrow1 _; have B2 : Hid (Below w4.heap.size w4 w1) := B1.out.grown hgrow1 B1.out.size (fun k h => by simp [Value.ownBlock] at h; omega); rw [Nat.zero_add, List.nil_append] at hown1; obtain ⟨a1, c1, hv1, hB1⟩ := own_bs hown1 HPC.out.oct (by omega); subst hv1; clear hgrow1)
        refine (decode_dl a1 n c1 zs _ hB1 (by omega)).mono ?_
        rintro e w2 ⟨ys, ar, cr, rfl, hD, hb2⟩
        have HD : Hid (DL w2 w4.heap.size ar cr zs ys) := ⟨hD.all, own_low' hD.own B2.out.size, fun x hx => own_base (hD.lies x hx) B2.out.size⟩
        have HB : Hid (Below w4.heap.size w4 w2) := B2.out.trans (hb2.mono B2.out.size)
        clear hD hb2 hown1 hB1
        go_wp2_with fail
        go_meet
        case rel => exact ⟨ys, ar, cr, rfl, HD.out, HB.out⟩
    case rest =>
      obtain ⟨ys, ar, cr, rfl, hD2, hbd⟩ := hcut
      have BD : Below w.heap.size w wc := BC.trans (hbd.mono BC.size)
      have hsig := back ss xs ys (formAll ss ++ zs) zs 0 (fun s h => ⟨(hmay2 s h).1, (hmay2 s h).2.2.1⟩) (by simp) HD1.out.all hD2.all
      have hxl : xs.length = nl + ys.length := by have := congrArg List.length hsig; simpa [hnl] using this
      have HS : Hid (xs.map (fun x => ssig x.s) = ss.map ssig ++ ys.map (fun x => ssig x.s)) := hsig
      have HX : Hid (xs.length = nl + ys.length) := hxl
      have hyl : ys.length ≤ 1048576 := by have := row_len zs ys hD2.all.1; have := hP.len; omega
      have HDx : Hid (DL wc wE.heap.size av cv (formAll ss ++ zs) xs) := HD1.out.below hbd
      have HDy : Hid (DL wc w4.heap.size ar cr zs ys) := hD2
      have HOx : Hid (Octets (formAll ss ++ zs)) := hFo.append hP.oct
      have HOy : Hid (Octets zs) := hP.oct
      have HLw : Hid (LS w al ss) := hL
      obtain ⟨M, hM⟩ : ∃ M, ys.length = M := ⟨_, rfl⟩
      have HMl : Hid (ys.length = M) := hM
      rw [hM] at hyl hxl ⊢
      have HX' : Hid (xs.length = nl + M) := hxl
      obtain ⟨K, hK⟩ : ∃ K, xs.length = K := ⟨_, rfl⟩
      rw [hK]
      have hKn : (K : Int) = (nl : Int) + M := by omega
      have HKn : Hid ((K : Int) = (nl : Int) + M) := hKn
      have hKl : K ≤ 2097152 := by omega
      have HNl : Hid (ss.length = nl) := hnl
      have hmay3 : Hid (∀ s ∈ ss, s.d.zs.length = s.d.n ∧ s.d.n ≤ 65535) := fun s h => (hmay2 s h).2.2
      clear hM hxl hK hsig hD2 hbd HD1 HX hL PC HPC hmay hmay2 hFo LA hP hbA BE BC hbE
      go_wp2_with fail
      clear hKn
      go_loopw [9] (fun t W => ∃ i : Nat, i ≤ nl ∧ t = .int .i64 i ∧ Below wc.heap.size wc W) (fun t _ => nl - (intOf t).toNat)
      case atStart => exact ⟨0, by omega, rfl, Below.refl _ _⟩
      case round =>
        obtain ⟨i, hi', rfl, hBW⟩ := hrel
        by_cases hik : i < nl
        · obtain ⟨s, hs⟩ : ∃ s, ss[i]? = some s := ⟨ss[i]'(by have := HNl.out; omega), List.getElem?_eq_getElem _⟩
          obtain ⟨y, hy⟩ : ∃ y, xs[i]? = some y := ⟨xs[i]'(by have := HX'.out; omega), List.getElem?_eq_getElem _⟩
          obtain ⟨g1, rfl⟩ := HDx.out.some (by have := HX'.out; omega)
          obtain ⟨b, off, rfl, he⟩ : ∃ b off, al = some ⟨b, off, none⟩ ∧ ∀ (i : Nat) (s : St), ss[i]? = some s → ∀ (j : Nat) (u : Value), s.cells[j]? = some u → w.cell? ⟨b, off + i * 4 + j, none⟩ = some u := by
            rcases HLw.out.2 with h | h
            · rw [h] at hs; simp at hs
            · exact h
          have hbb : b < w.heap.size := by have := World.block_lt_of_cell? w _ (he i s hs 0 _ rfl); simpa using this
          have hss : ssig s = ssig y.s := by
            have h1 := congrArg (·[i]?) HS.out
            simp only [List.getElem?_map, hy, Option.map_some] at h1
            rw [List.getElem?_append_left (by rw [List.length_map, HNl.out]; exact hik), List.getElem?_map, hs] at h1
            simpa using h1.symm
          have hWW : Below w.heap.size w wr := BD.trans (hBW.mono BD.size)
          obtain ⟨m0, m1, m2, m3⟩ := pair_steps hbb he hWW i s hs
          have hDr := HDx.out.below hBW
          have q0 : wr.cell? ⟨g1, i * 4, none⟩ = some (.int .i64 y.s.op) := hDr.cell i y hy 0 _ rfl
          have q1 := hDr.cell i y hy 1 _ rfl
          have q2 := hDr.cell i y hy 2 _ rfl
          have q3 := hDr.cell i y hy 3 _ rfl
          have hh1 := ((HLw.out.1 s (List.mem_of_getElem? hs)).below hWW).has
          have hh2 := lies_has (hDr.lies y (List.mem_of_getElem? hy))
          obtain ⟨hl1, hn2⟩ := hmay3.out s (List.mem_of_getElem? hs)
          obtain ⟨op, x', y', a1', dn, d1, dz⟩ := s
          obtain ⟨_, op2, x2, y2, a2', dn2, d2, dz2⟩ := y
          simp only [ssig, Prod.mk.injEq] at hss
          obtain ⟨rfl, rfl, rfl, rfl, rfl⟩ := hss
          dsimp only [Sl.val] at m0 m1 m2 m3 q0 q1 q2 q3 hh1 hh2 hl1 hn2
          have HH1 : Hid (Has wr a1' dz) := hh1
          have HH2 : Hid (Has wr a2' dz) := hh2
          have HL1 : Hid (dz.length = dn) := hl1
          have i0' : (0 : Int) ≤ i := by omega
          have i1' : (i : Int) < nl := by omega
          have i2' : (i : Int) < K := by have := HKn.out; omega
          clear hh1 hh2 hl1 hs hy hDr he hWW
          go_wp2_with fail
          go_region_held3 (fun w' => w'.cell? ⟨b, off + i * 4, none⟩ = some (.int .i64 op) ∧ w'.cell? ⟨b, off + i * 4 + 1, none⟩ = some (.int .i64 x') ∧ w'.cell? ⟨b, off + i * 4 + 2, none⟩ = some (.int .i64 y') ∧ w'.cell? ⟨b, off + i * 4 + 3, none⟩ = some (.slice a1' dn d1) ∧ w'.cell? ⟨g1, i * 4, none⟩ = some (.int .i64 op) ∧ w'.cell? ⟨g1, i * 4 + 1, none⟩ = some (.int .i64 x') ∧ w'.cell? ⟨g1, i * 4 + 2, none⟩ = some (.int .i64 y') ∧ w'.cell? ⟨g1, i * 4 + 3, none⟩ = some (.slice a2' dn d2)) (go_keep)
            (first | (go_at_call 23; refine (both_any op x' y' a1' a2' dn d1 d2 dz _ HL1.out (has_drew HH1.out) (has_drew HH2.out) (by omega)).mono ?_; rintro e w3 ⟨rfl, hb3⟩; have HB3 : Hid (Below wc.heap.size wc w3) := (below_next hBW hb3); obtain ⟨⟨k0', k1', k2', k3'⟩, l0, l1, l2, l3⟩ := pair_next hb3 m0 m1 m2 m3 q0 q1 q2 q3; clear hb3))
          go_wp2
          go_roundw
          case rel => exact ⟨i + 1, by omega, by go_num, HB3.out⟩
          case measure => simp [intOf]; omega
        · go_wp2_with fail
          go_loopw [10] (fun t W => ∃ i : Nat, i ≤ M ∧ t = .int .i64 i ∧ Below wc.heap.size wc W) (fun t _ => M - (intOf t).toNat)
          case atStart => exact ⟨0, by omega, rfl, hBW⟩
          case round =>
            obtain ⟨j, hj', rfl, hBW2⟩ := hrel
            by_cases hjk : j < M
            · obtain ⟨x, hx⟩ : ∃ x, ys[j]? = some x := ⟨ys[j]'(by have := HMl.out; omega), List.getElem?_eq_getElem _⟩
              obtain ⟨y, hy⟩ : ∃ y, xs[nl + j]? = some y := ⟨xs[nl + j]'(by have := HX'.out; omega), List.getElem?_eq_getElem _⟩
              obtain ⟨g1, rfl⟩ := HDx.out.some (by have := HX'.out; omega)
              obtain ⟨g2, rfl⟩ := HDy.out.some (by have := HMl.out; omega)
              have hss : ssig x.s = ssig y.s := by
                have h1 := congrArg (·[nl + j]?) HS.out
                simp only [List.getElem?_map, hy, Option.map_some] at h1
                rw [List.getElem?_append_right (by rw [List.length_map, HNl.out]; omega), List.length_map, HNl.out, Nat.add_sub_cancel_left, List.getElem?_map, hx] at h1
                simpa using h1.symm
              obtain ⟨op, x', y', a1', a2', dn, d1, d2, dz, hP2, hl1, hh1, hh2, hn2⟩ := both_of HOy.out (HDy.out.below hBW2) (HDx.out.below hBW2) j (nl + j) x y hx hy hss
              obtain ⟨⟨m0, m1, m2, m3⟩, q0, q1, q2, q3⟩ := hP2
              dsimp only [Sl.val] at m0 m1 m2 m3 q0 q1 q2 q3
              have HH1 : Hid (Has wr a1' dz) := hh1
              have HH2 : Hid (Has wr a2' dz) := hh2
              have HL1 : Hid (dz.length = dn) := hl1
              have i0' : (0 : Int) ≤ j := by omega
              have i1' : (j : Int) < M := by omega
              have i2' : (nl : Int) + j < K := by have := HKn.out; omega
              have i4' : (0 : Int) ≤ (nl : Int) + j := by omega
              have i5' : ((nl : Int) + j).toNat = nl + j := by omega
              have i6' : IntKind.i64.wrap ((nl : Int) + j) = (nl : Int) + j := by rw [IntKind.wrap_i64]; omega
              clear hh1 hh2 hl1 hx hy hss
              go_wp2_with fail
              go_region_held3 (fun w' => w'.cell? ⟨g2, j * 4, none⟩ = some (.int .i64 op) ∧ w'.cell? ⟨g2, j * 4 + 1, none⟩ = some (.int .i64 x') ∧ w'.cell? ⟨g2, j * 4 + 2, none⟩ = some (.int .i64 y') ∧ w'.cell? ⟨g2, j * 4 + 3, none⟩ = some (.slice a1' dn d1) ∧ w'.cell? ⟨g1, (nl + j) * 4, none⟩ = some (.int .i64 op) ∧ w'.cell? ⟨g1, (nl + j) * 4 + 1, none⟩ = some (.int .i64 x') ∧ w'.cell? ⟨g1, (nl + j) * 4 + 2, none⟩ = some (.int .i64 y') ∧ w'.cell? ⟨g1, (nl + j) * 4 + 3, none⟩ = some (.slice a2' dn d2)) (go_keep)
                (first | (go_at_call 23; refine (both_any op x' y' a1' a2' dn d1 d2 dz _ HL1.out (has_drew HH1.out) (has_drew HH2.out) (by omega)).mono ?_; rintro e w3 ⟨rfl, hb3⟩; have HB3 : Hid (Below wc.heap.size wc w3) := (below_next hBW2 hb3); obtain ⟨⟨k0', k1', k2', k3'⟩, l0, l1, l2, l3⟩ := pair_next hb3 m0 m1 m2 m3 q0 q1 q2 q3; clear hb3))
              go_wp2
              go_roundw
              case rel => exact ⟨j + 1, by omega, by go_num, HB3.out⟩
              case measure => simp [intOf]; omega
            · go_wp2
              go_ret
              exact ⟨rfl, BD.trans (hBW2.mono BD.size)⟩
end Go.Proofs.Ytnbhadfhgecajaa
