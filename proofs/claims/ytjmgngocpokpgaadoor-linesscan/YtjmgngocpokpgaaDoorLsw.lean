/-
  LinesScan.
-/
import Derived.Test.YtjmgngocpokpgaaDoorLks
import Derived.Test.YtjmgngocpokpgaaDoorRsc
namespace Go.Proofs.YtjmgngocpokpgaaDoor
open Go.RowKit
set_option linter.unusedVariables false
set_option linter.unusedSimpArgs false
theorem row_cell40 {w : World} {B g N c : Nat} {T : List Tk} (h : w.ownsRow B 40 5 (.slice (some ⟨g, 0, none⟩) N c) N (T.flatMap Tk.row)) (i : Nat) (t : Tk) (ht : T[i]? = some t) (j : Nat) (u : Value) (hj : j < 5) (hu : t.row[j]? = some u) : w.cell? ⟨g, i * 5 + j, none⟩ = some u := by
  have := h.cells rfl (i * 5 + j) u (by rw [flat_row T i j t ht hj]; exact hu)
  rwa [Go.WideShapes.add_plain, Nat.zero_add] at this
/-- Bytes of one's own, written over. -/
theorem Ovw.of_row {w : World} {base g n cap : Nat} {zs : List Int} (h : Row w base g n cap zs) : Ovw w w (some ⟨g, 0, none⟩) n := by
  refine ⟨fun _ _ => rfl, rfl, fun j hj => ?_⟩
  obtain ⟨cur, hc⟩ := own_cells h.owns g rfl
  have h1 := h.cellAt j (by omega)
  have hz := h.len
  have e : (zs ++ [201, 202]).getD j 0 = zs.getD j 0 := by simp [List.getD, List.getElem?_append_left (show j < zs.length by omega)]
  rw [e] at h1
  rw [cell_block hc] at h1
  exact ⟨g, 0, _, cur, rfl, (h.oct j).1, (h.oct j).2, hc, by simpa using h1⟩
/-- What stands behind all calls. -/
structure Aft (w wr : World) (B1 B2 N0 N F : Nat) (T0 T : List Tk) (fd fl fe : Int) (vw vt : Value) : Prop where
  want : wr.ownsRow B1 40 5 vw N0 (T0.flatMap Tk.row)
  toks : wr.ownsRow B2 39 5 vt N (T.flatMap Tk.row)
  flt : wr.heap[F]? = some (.cells #[.int .i64 fd, .int .i64 fl, .int .i64 fe] 25 (0, 0))
  bel : Below w.heap.size w wr
theorem Aft.keep {w wr w' : World} {B1 B2 N0 N F : Nat} {T0 T : List Tk} {fd fl fe : Int} {vw vt : Value} (h : Aft w wr B1 B2 N0 N F T0 T fd fl fe vw vt) (hk : ∀ k, (vw.ownBlock = some k ∨ vt.ownBlock = some k ∨ k = F) → w'.heap[k]? = wr.heap[k]?) (hb : Below w.heap.size w w') : Aft w w' B1 B2 N0 N F T0 T fd fl fe vw vt :=
  ⟨own_blk h.want (fun k hq => hk k (.inl hq)), own_blk h.toks (fun k hq => hk k (.inr (.inl hq))), (hk F (.inr (.inr rfl))).trans h.flt, hb⟩
theorem Aft.below {w wr w' : World} {B1 B2 N0 N F : Nat} {T0 T : List Tk} {fd fl fe : Int} {vw vt : Value} (h : Aft w wr B1 B2 N0 N F T0 T fd fl fe vw vt) (hb : Below wr.heap.size wr w') : Aft w w' B1 B2 N0 N F T0 T fd fl fe vw vt :=
  h.keep (fun k hk => hb.block k (by
    rcases hk with hk | hk | rfl
    · exact (h.want.lt k hk).2
    · exact (h.toks.lt k hk).2
    · exact (Array.getElem?_eq_some_iff.1 h.flt).1)) (h.bel.trans (hb.mono h.bel.size))
theorem cell_bel {w w' : World} (hb : Below w.heap.size w w') {a : Addr} {v : Value} (h : w.cell? a = some v) : w'.cell? a = some v := (hb.cell (World.block_lt_of_cell? w _ h)).trans h
theorem Row.keep {w w' : World} {base g n cap : Nat} {zs : List Int} (h : Row w base g n cap zs) (hb : Below w.heap.size w w') : Row w' base g n cap zs := h.below hb h.lt.2
set_option maxRecDepth 100000 in
set_option maxHeartbeats 8000000 in
theorem scans_any (a : Option Addr) (n cap : Nat) (l : List UInt8) (w : World) (hm : HasM w) (hn : l.length = n) (hB : Has w a (zL l)) (hbare : a = none → cap = 0) (hl : n ≤ 140737488351232) (hcap : n ≤ cap) :
    Calls Tryd.prog 3 #[.slice a n cap] w fun e w' => e = .returned (.bool true) ∧ Below w.heap.size w w' := by
  have hw0 := hm.lt
  obtain ⟨A, hA⟩ : ∃ A, scnF l = A := ⟨_, rfl⟩
  obtain ⟨T0, hT0⟩ : ∃ T, preT A = T := ⟨_, rfl⟩
  obtain ⟨T, hT⟩ : ∃ T, toksOf A = T := ⟨_, rfl⟩
  obtain ⟨fd, fl, fe, hF⟩ : ∃ fd fl fe, fltOf A = (fd, fl, fe) := ⟨_, _, _, rfl⟩
  obtain ⟨N0, hN0⟩ : ∃ N, T0.length = N := ⟨_, rfl⟩
  obtain ⟨N, hN⟩ : ∃ N, T.length = N := ⟨_, rfl⟩
  have hNl : N ≤ 65537 := by rw [← hN, ← hT, ← hA]; exact toks_few l
  have HTT : Hid (fe = 0 → T0 = T ∧ N0 = N) := fun h => by
    have := tok_pre A (by rw [hF]; exact h)
    rw [hT, hT0] at this
    exact ⟨this.symm, by rw [← hN0, ← hN, this]⟩
  have HTB : Hid (fe ≠ 0 → N = 0) := fun h => by
    have := tok_bad A (by rw [hF]; exact h)
    rw [hT] at this
    rw [← hN, this]; rfl
  have c9 := rscan_any a n cap l w hn hB (by unfold maxLen; omega) hcap T0 fd fl fe N0 hN0 (by rw [hA]; exact hT0) (by rw [hA]; exact hF)
  have HA := hide2 hA
  have HT := hide2 hT
  have HF := hide2 hF
  have HN := hide2 hN
  have Hn := hide2 hn
  have HB := hide2 hB
  have HM := hide2 hm
  clear hA hT0 hT hF hN0 hN hn hB hm
  go_enter Tryd.func3, Tryd.ntmps3
  go_wp2_with fail
  refine c9.mono ?_
  rintro e w1 ⟨aw, cw, rfl, hrw, haw, b1⟩
  have HRW := hide2 hrw
  have HB1 := hide2 b1
  have hs1 := b1.size
  clear hrw b1 c9
  go_wp2_with fail
  have b1a : Below w1.heap.size w1 (w1.alloc (.cells #[.int .i64 fd, .int .i64 fl, .int .i64 fe] 25)) := (Below.refl _ w1).alloc (Nat.le_refl _) _
  have k1a : (w1.alloc (.cells #[.int .i64 fd, .int .i64 fl, .int .i64 fe] 25)).heap[w1.heap.size]? = some (.cells #[.int .i64 fd, .int .i64 fl, .int .i64 fe] 25 (0, 0)) := Go.heap_alloc_new w1 _
  have s1a : (w1.alloc (.cells #[.int .i64 fd, .int .i64 fl, .int .i64 fe] 25)).heap.size = w1.heap.size + 1 := by simp
  obtain ⟨w2, hw2⟩ : ∃ W, w1.alloc (.cells #[.int .i64 fd, .int .i64 fl, .int .i64 fe] 25) = W := ⟨_, rfl⟩
  rw [hw2] at b1a k1a s1a ⊢
  have HB2 := hide2 (HB1.out.trans (b1a.mono hs1))
  have HK2 := hide2 k1a
  have HB12 := hide2 b1a
  have hs2 : w1.heap.size + 1 ≤ w2.heap.size ∧ w2.heap.size ≤ w1.heap.size + 1 := by omega
  clear hw2 b1a k1a s1a
  refine (lent_row a n cap (zL l) w2 (by rw [zL_length]; exact Hn.out) (HB.out.of_below HB2.out) (oct_zL l) hbare hl).mono ?_
  rintro e w3 ⟨g, cp, rfl, hrow, b3⟩
  have HROW := hide2 hrow
  have HB3 := hide2 b3
  have hs3 := b3.size
  have hg := hrow.lt
  have hcp := hrow.cap
  clear hrow b3
  go_wp2_with fail
  refine (scan_call (some ⟨g, 0, none⟩) n cp l w3 Hn.out HROW.out.has (by unfold maxLen; omega) (HM.out.below (HB2.out.trans (HB3.out.mono HB2.out.size)) hw0) T fd fl fe N HN.out (by rw [HA.out]; exact HT.out) (by rw [HA.out]; exact HF.out)).mono ?_
  rintro e w4 ⟨av, cv, rfl, hrt, hav, b4⟩
  have HRT := hide2 hrt
  have HB4 := hide2 b4
  have hs4 := b4.size
  clear hrt b4
  go_wp2_with fail
  have b4a : Below w4.heap.size w4 (w4.alloc (.cells #[.int .i64 fd, .int .i64 fl, .int .i64 fe] 32)) := (Below.refl _ w4).alloc (Nat.le_refl _) _
  have k4a : (w4.alloc (.cells #[.int .i64 fd, .int .i64 fl, .int .i64 fe] 32)).heap[w4.heap.size]? = some (.cells #[.int .i64 fd, .int .i64 fl, .int .i64 fe] 32 (0, 0)) := Go.heap_alloc_new w4 _
  obtain ⟨w5, hw5⟩ : ∃ W, w4.alloc (.cells #[.int .i64 fd, .int .i64 fl, .int .i64 fe] 32) = W := ⟨_, rfl⟩
  rw [hw5] at b4a k4a ⊢
  have HB35 := hide2 (HB4.out.trans (b4a.mono hs4))
  have HAF : Hid (Aft w w5 w.heap.size w3.heap.size N0 N w1.heap.size T0 T fd fl fe (.slice aw N0 cw) (.slice av N cv)) :=
    ⟨own_blk HRW.out (fun k hk => by have := (HRW.out.lt k hk).2; rw [HB35.out.block k (by omega), HB3.out.block k (by omega), HB12.out.block k (by omega)]), own_blk HRT.out (fun k hk => b4a.block k (HRT.out.lt k hk).2), by rw [HB35.out.block _ (by omega), HB3.out.block _ (by omega)]; exact HK2.out, HB2.out.trans ((HB3.out.trans (HB35.out.mono hs3)).mono HB2.out.size)⟩
  have HR5 := hide2 (HROW.out.keep HB35.out)
  have hlw : Hid (∀ k, (Value.slice aw N0 cw).ownBlock = some k → k < w1.heap.size) := fun k hk => (HRW.out.lt k hk).2
  have hlt : Hid (∀ k, (Value.slice av N cv).ownBlock = some k → w3.heap.size ≤ k) := fun k hk => (HRT.out.lt k hk).1
  clear hw5 b4a HRW HRT HROW HB4 HB3 HB2 HK2 HB12 HB1
  refine (kept_any w2.heap.size g n cp a cap (zL l) w5 HR5.out (HB.out.of_below HAF.out.bel)).mono ?_
  rintro e w6 ⟨rfl, q, hq⟩
  have b6 : Below w5.heap.size w5 w6 := hq ▸ below_drewN (Below.refl _ w5) q
  have HA6 := hide2 (HAF.out.below b6)
  have HR6 := hide2 (HR5.out.keep b6)
  have k6 := (b6.block _ (Array.getElem?_eq_some_iff.1 k4a).1).trans k4a
  have x0 := cell_of k6 0 _ rfl
  have x1 := cell_of k6 1 _ rfl
  have x2 := cell_of k6 2 _ rfl
  have y0 := cell_of HA6.out.flt 0 _ rfl
  have y1 := cell_of HA6.out.flt 1 _ rfl
  have y2 := cell_of HA6.out.flt 2 _ rfl
  clear hq b6 k4a k6 HAF HR5
  go_wp2_with (go_at_call 13; refine (fault_any fd fl fe w6).mono ?_; rintro e w7 ⟨rfl, b7⟩; have HA7 := hide2 (HA6.out.below b7); have HR7 := hide2 (HR6.out.keep b7); clear b7)
  have HOV := hide2 (Ovw.of_row HR7.out)
  have hnl : (n : Int) ≤ 140737488351232 := by omega
  have hgw : w.heap.size ≤ g := by omega
  clear x0 x1 x2 y0 y1 y2 HA6 HR6
  go_loopw [8] (fun t wr => ∃ i : Nat, t = .int .i64 i ∧ i ≤ n ∧ Ovw w7 wr (some ⟨g, 0, none⟩) n ∧ Below w.heap.size w wr) (fun t _ => n - (intOf t).toNat)
  case atStart => exact ⟨0, rfl, by omega, HOV.out, HA7.out.bel⟩
  case round =>
    obtain ⟨i, rfl, hi, hov, hbw⟩ := hrel
    have i0 : (0 : Int) ≤ i := by omega
    by_cases hin : i < n
    · have hi2 : (i : Int) < n := by omega
      obtain ⟨g', off, c, cur, he, c0, c1, hgc, hcu⟩ := hov.cel i hin
      cases he
      rw [Nat.zero_add] at hcu
      have hci : wr.cell? ⟨g, i, none⟩ = some (.int .u8 c) := by rw [cell_block hgc]; exact hcu
      have hfi : wr.frozen? ⟨g, i, none⟩ = false := by simp [World.frozen?, hgc]
      have hp : ∀ x, 0 ≤ x → x ≤ 255 → Ovw w7 (wr.setCell ⟨g, i, none⟩ (.int .u8 x)) (some ⟨g, 0, none⟩) n := fun x h0 h1 => by have := hov.put (i := i) h0 h1; rwa [Nat.zero_add] at this
      have HP := hide2 hp
      have HBW := hide2 hbw
      clear hov hbw hp HOV
      go_wp2_with fail
      go_roundw
      case rel => exact ⟨i + 1, by go_num, by omega, HP.out _ (by omega) (by omega), HBW.out.setCell (p := ⟨g, i, none⟩) hgw _⟩
      case measure => simp [intOf]; omega
    · have hi2 : ¬ (i : Int) < n := by omega
      have HA8 : Hid (Aft w wr w.heap.size w3.heap.size N0 N w1.heap.size T0 T fd fl fe (.slice aw N0 cw) (.slice av N cv)) := HA7.out.keep (fun k hk => hov.oth k (fun x hx => by
        cases hx
        show k ≠ g
        rcases hk with hk | hk | rfl
        · have := hlw.out k hk; omega
        · have := hlt.out k hk; omega
        · omega)) hbw
      have y2 := cell_of HA8.out.flt 2 _ rfl
      have HBW := hide2 hbw
      clear hov hbw HOV HA7 HR7
      by_cases hfe : fe = 0
      · subst hfe
        obtain ⟨e1, e2⟩ := HTT.out rfl
        subst e1 e2
        go_wp2
        have hNi : (N0 : Int) ≤ 65537 := by omega
        have HNN : Hid (T0.length = N0) := HN.out
        go_loopw [9] (fun t wq => ∃ i : Nat, t = .int .i64 i ∧ i ≤ N0 ∧ Hid (Aft w wq w.heap.size w3.heap.size N0 N0 w1.heap.size T0 T0 fd fl 0 (.slice aw N0 cw) (.slice av N0 cv))) (fun t _ => N0 - (intOf t).toNat)
        case atStart => exact ⟨0, rfl, by omega, HA8⟩
        case round =>
          obtain ⟨i, rfl, hi, HA9⟩ := hrel
          have i0 : (0 : Int) ≤ i := by omega
          by_cases hin : i < N0
          · have hi2 : (i : Int) < N0 := by omega
            obtain ⟨gw, rfl⟩ := haw (by omega)
            obtain ⟨gt, rfl⟩ := hav (by omega)
            rcases hti : T0[i]? with _ | t
            · have := List.getElem?_eq_none_iff.1 hti; have := HNN.out; omega
            obtain ⟨kd, ln, cl, tx, q⟩ := t
            have a0 := row_cell HA9.out.toks i _ hti 0 _ (by omega) rfl
            have a1 := row_cell HA9.out.toks i _ hti 1 _ (by omega) rfl
            have a2 := row_cell HA9.out.toks i _ hti 2 _ (by omega) rfl
            have a3 := row_cell HA9.out.toks i _ hti 3 _ (by omega) rfl
            have a4 := row_cell HA9.out.toks i _ hti 4 _ (by omega) rfl
            have e0 := row_cell40 HA9.out.want i _ hti 0 _ (by omega) rfl
            have e1 := row_cell40 HA9.out.want i _ hti 1 _ (by omega) rfl
            have e2 := row_cell40 HA9.out.want i _ hti 2 _ (by omega) rfl
            have e3 := row_cell40 HA9.out.want i _ hti 3 _ (by omega) rfl
            have e4 := row_cell40 HA9.out.want i _ hti 4 _ (by omega) rfl
            rw [Nat.add_zero] at a0 e0
            dsimp only at a0 a1 a2 a3 a4 e0 e1 e2 e3 e4
            have HC : Hid (Calls Tryd.prog 14 #[.agg #[.int .i64 kd, .int .i64 ln, .int .i64 cl, .string ⟨tx.toArray⟩, .bool q], .agg #[.int .i64 kd, .int .i64 ln, .int .i64 cl, .string ⟨tx.toArray⟩, .bool q]] wr.drew fun r w' => r = .returned (.bool true) ∧ Below wr.heap.size wr w') :=
              (token_any ⟨kd, ln, cl, tx, q⟩ wr.drew).mono fun e w' ⟨he, hb⟩ => ⟨he, (below_drewN (Below.refl _ wr) 1).trans hb⟩
            clear hti
            go_wp2_with fail
            go_region_held3 (fun w' => w'.cell? ⟨gt, i * 5, none⟩ = some (.int .i64 kd) ∧ w'.cell? ⟨gt, i * 5 + 1, none⟩ = some (.int .i64 ln) ∧ w'.cell? ⟨gt, i * 5 + 2, none⟩ = some (.int .i64 cl) ∧ w'.cell? ⟨gt, i * 5 + 3, none⟩ = some (.string ⟨tx.toArray⟩) ∧ w'.cell? ⟨gt, i * 5 + 4, none⟩ = some (.bool q) ∧ w'.cell? ⟨gw, i * 5, none⟩ = some (.int .i64 kd) ∧ w'.cell? ⟨gw, i * 5 + 1, none⟩ = some (.int .i64 ln) ∧ w'.cell? ⟨gw, i * 5 + 2, none⟩ = some (.int .i64 cl) ∧ w'.cell? ⟨gw, i * 5 + 3, none⟩ = some (.string ⟨tx.toArray⟩) ∧ w'.cell? ⟨gw, i * 5 + 4, none⟩ = some (.bool q)) (go_keep) (first | (go_at_call 14; refine HC.out.mono ?_; rintro e w' ⟨rfl, hb1⟩; have u0 := cell_bel hb1 a0; have u1 := cell_bel hb1 a1; have u2 := cell_bel hb1 a2; have u3 := cell_bel hb1 a3; have u4 := cell_bel hb1 a4; have v0 := cell_bel hb1 e0; have v1 := cell_bel hb1 e1; have v2 := cell_bel hb1 e2; have v3 := cell_bel hb1 e3; have v4 := cell_bel hb1 e4))
            have HA10 := hide2 (HA9.out.below hb1)
            clear u0 u1 u2 u3 u4 v0 v1 v2 v3 v4 hb1
            go_wp2_with fail
            go_roundw
            case rel => exact ⟨i + 1, by go_num, by omega, HA10⟩
            case measure => simp [intOf]; omega
          · have hi2 : ¬ (i : Int) < N0 := by omega
            go_wp2
            go_ret
            exact ⟨rfl, HA9.out.bel⟩
      · have hfe2 : (fe != 0) = true := by rw [bne_iff_ne]; exact hfe
        have hN0 := HTB.out hfe
        subst hN0
        go_wp2
        go_ret
        exact ⟨rfl, HBW.out⟩
end Go.Proofs.YtjmgngocpokpgaaDoor
