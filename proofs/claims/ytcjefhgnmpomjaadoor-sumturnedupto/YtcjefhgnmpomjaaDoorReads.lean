/-
  The walk of SumReads.
-/
import Derived.Test.YtcjefhgnmpomjaaDoorRNext
namespace Go.Proofs.YtcjefhgnmpomjaaDoor
open Go.RowKit
set_option linter.unusedVariables false

theorem lent_row (a : Option Addr) (n cap : Nat) (zs : List Int) (w : World) (hn : zs.length = n) (hB : Has w a zs) (hz : Octets zs) (hc : a = none → cap = 0) (hl : n ≤ 140737488351232) :
    Calls Tryd.prog 9 #[.slice a n cap] w fun e w' => ∃ g cp, e = .returned (.slice (some ⟨g, 0, none⟩) n cp) ∧ Row w' w.heap.size g n cp zs ∧ Below w.heap.size w w' := by
  refine (lent_any a n cap zs w hn hB hc hl).mono ?_
  rintro e w' ⟨v, rfl, g, cp, rfl, hown, hb⟩
  rw [hn] at hown ⊢
  exact ⟨g, cp, rfl, ⟨hn, hz, hl, hown⟩, hb⟩

theorem octets_set {zs : List Int} (hz : Octets zs) (i : Nat) (z : Int) (h0 : 0 ≤ z) (h1 : z ≤ 255) : Octets (zs.set i z) := fun j => by
  have := hz j
  simp only [List.getD, List.getElem?_set] at *
  split
  · split
    · simp; omega
    · simp
  · exact this
theorem vals_set (zs : List Int) (i : Nat) (z : Int) : vals (zs.set i z) = (vals zs).set i (.int .u8 z) := by simp [vals, List.map_set]
theorem block_set {w : World} {g : Nat} {ps : List Int} (h : w.heap[g]? = some (.cells (vals ps).toArray 5 (0, 0))) (i : Nat) (z : Int) : (w.setCell ⟨g, i, none⟩ (.int .u8 z)).heap[g]? = some (.cells (vals (ps.set i z)).toArray 5 (0, 0)) := by
  rw [heap_setCell_same w g i _ 5 _ h, vals_set]; simp
theorem Row.stored {w : World} {base g n cap : Nat} {zs : List Int} (h : Row w base g n cap zs) (i : Nat) (z : Int) (hi : i < n) (h0 : 0 ≤ z) (h1 : z ≤ 255) : Row (w.setCell ⟨g, i, none⟩ (.int .u8 z)) base g n cap (zs.set i z) := by
  refine ⟨by simpa using h.len, octets_set h.oct i z h0 h1, h.small, ?_⟩
  have := (h.owns.stored i (.int .u8 z)).1
  rw [← vals_set, List.set_append_left _ _ (by have := h.len; omega)] at this
  exact this

set_option maxHeartbeats 2000000 in
theorem reads_any (a : Option Addr) (n cap : Nat) (zs : List Int) (w : World) (hP : Bs w a n cap zs) (hT : Tab w) (hl : n ≤ 140737488351232) :
    Calls Tryd.prog 4 #[.slice a n cap] w fun e w' => e = .returned (.bool true) ∧ Below w.heap.size w w' := by
  go_enter Tryd.func4, Tryd.ntmps4
  go_wp2_with fail
  refine (lent_row a n cap zs _ hP.len hP.has hP.oct hP.bare hl).mono ?_
  rintro e w1 ⟨g, cp, rfl, hR1, hb1⟩
  go_wp2_with fail
  go_loopw [4] (fun t wr => ∃ (k : Nat) (ys : List Int), k ≤ 2 ∧ t = .int .i64 k ∧ Row wr w.heap.size g n cp ys ∧ Below w.heap.size w wr) (fun t _ => 2 - (intOf t).toNat)
  case atStart => exact ⟨0, zs, by omega, rfl, hR1, hb1⟩
  case round =>
    obtain ⟨k, ys, hk, rfl, hR, hb⟩ := hrel
    clear hR1 hb1
    by_cases hlt : k < 2
    · obtain ⟨hg0, hg1⟩ := hR.lt
      go_wp2_with fail
      refine (lent_row (some ⟨g, 0, none⟩) n cp ys _ hR.len hR.has hR.oct (fun h => by cases h) hl).mono ?_
      rintro e w2 ⟨g2, cp2, rfl, hR2, hb2⟩
      have hRG : Row w2 w.heap.size g n cp ys := hR.below hb2 hg1
      have B2 : Below w.heap.size w w2 := hb.trans (hb2.mono hb.size)
      have T2 : Tab w2 := hT.below B2 hT.pos
      clear hR hb2 hb
      go_wp2_with fail
      refine (next_any (some ⟨g, 0, none⟩) n cp ys _ hRG.len hRG.has hRG.bs.fits hRG.bs.cap hRG.oct T2).mono ?_
      rintro e w3 ⟨hb3, hN3⟩
      obtain ⟨hg20, hg21⟩ := hR2.lt
      obtain ⟨hg0', hg1'⟩ := hRG.lt
      have RG3 : Row w3 w.heap.size g n cp ys := hRG.below hb3 hg1'
      have R23 : Row w3 wr.heap.size g2 n cp2 ys := hR2.below hb3 hg21
      rcases hN3 with ⟨hno, rfl⟩ | ⟨N, gp, hrec, rfl, hgp, hhp⟩
      · go_wp2_with fail
        refine (rnext_any (some ⟨g2, 0, none⟩) n cp2 ys _ R23.bs).mono ?_
        rintro e w4 ⟨hb4, hN4⟩
        rcases hN4 with ⟨_, rfl⟩ | ⟨N', aq, cq, hrec', rfl, hHq, _⟩
        rotate_left
        · exact absurd hrec' (hno N')
        have s1 := str_of w4 none 0 0 [] rfl (.inl ⟨rfl, rfl⟩)
        have B24 : Below w2.heap.size w2 w4 := hb3.trans (hb4.mono hb3.size)
        have RGw : Row w4 w.heap.size g n cp ys := hRG.below B24 hg1'
        have R2w : Row w4 wr.heap.size g2 n cp2 ys := hR2.below B24 hg21
        have BW : Below w.heap.size w w4 := B2.trans (B24.mono B2.size)
        have hoct := hRG.oct
        clear hb3 hb4 RG3 R23 T2 hRG hR2
        by_cases hn8 : 8 < n
        · have c8 := RGw.cellAt 8 (by omega)
          have f8 : w4.frozen? ⟨g, 8, none⟩ = false := RGw.owns.frozenAt 8
          obtain ⟨z, hz⟩ : ∃ z, (ys ++ [201, 202]).getD 8 0 = z := ⟨_, rfl⟩
          have oz := hoct 8
          have hz' : ys.getD 8 0 = z := by rw [← hz]; have := RGw.len; simp [List.getD, List.getElem?_append_left (show 8 < ys.length by omega)]
          rw [hz'] at oz
          rw [hz] at c8
          obtain ⟨z0, z1⟩ := oz
          clear hz hz'
          go_wp2_with (go_at_call 15; refine (kept_any w.heap.size g n cp (some ⟨g2, 0, none⟩) cp2 ys _ RGw R2w.has).mono ?_; rintro e w5 ⟨rfl, rfl⟩)
          refine wp_loop_rounds 1 ?_
          rw [rounds_succ]
          go_wp2_with (go_at_call 15; refine (kept_any w.heap.size g n cp (some ⟨g2, 0, none⟩) cp2 ys _ RGw R2w.has).mono ?_; rintro e w5 ⟨rfl, rfl⟩)
          go_roundw
          case rel => exact ⟨k + 1, ys.set 8 ((z + 91) % 256), by omega, by go_num, RGw.stored 8 _ hn8 (by omega) (by omega), BW.setCell hg0 _⟩
          case measure => simp [intOf]; omega
        · go_wp2_with (go_at_call 15; refine (kept_any w.heap.size g n cp (some ⟨g2, 0, none⟩) cp2 ys _ RGw R2w.has).mono ?_; rintro e w5 ⟨rfl, rfl⟩)
          refine wp_loop_rounds 1 ?_
          rw [rounds_succ]
          go_wp2_with (go_at_call 15; refine (kept_any w.heap.size g n cp (some ⟨g2, 0, none⟩) cp2 ys _ RGw R2w.has).mono ?_; rintro e w5 ⟨rfl, rfl⟩)
          go_roundw
          case rel => exact ⟨k + 1, ys, by omega, by go_num, RGw, BW⟩
          case measure => simp [intOf]; omega
      · go_wp2_with fail
        refine (rnext_any (some ⟨g2, 0, none⟩) n cp2 ys _ R23.bs).mono ?_
        rintro e w4 ⟨hb4, hN4⟩
        rcases hN4 with ⟨hno, _⟩ | ⟨N', aq, cq, hrec', rfl, hHq, _⟩
        · exact absurd hrec (hno N)
        obtain rfl : N = N' := hrec.same hrec'
        have hgp3 := lt_heap hhp
        have hhp4 : w4.heap[gp]? = some (.cells (vals ((ys.drop 8).take N)).toArray 5 (0, 0)) := (hb4.block gp hgp3).trans hhp
        have hNl : ((ys.drop 8).take N).length = N := by have := hrec.2.2.2.1; rw [List.length_take]; omega
        have s1 := str_of w4 (some ⟨gp, 0, none⟩) N N _ hNl (Has.of_block hhp4)
        have s2 := str_of w4 aq N cq _ hNl hHq
        have B24 : Below w2.heap.size w2 w4 := hb3.trans (hb4.mono hb3.size)
        have RG4 : Row w4 w.heap.size g n cp ys := hRG.below B24 hg1'
        have R24 : Row w4 wr.heap.size g2 n cp2 ys := hR2.below B24 hg21
        have hN1 : N ≤ 131072 := hrec.2.2.1
        have HOP : Hid (Octets ((ys.drop 8).take N)) := (hRG.oct.drop 8).take N
        have HPL : Hid (((ys.drop 8).take N).length = N) := hNl
        obtain ⟨P0, hP0⟩ : ∃ P0, (ys.drop 8).take N = P0 := ⟨_, rfl⟩
        rw [hP0] at s1 s2 hhp4 HOP HPL
        have HH4 : Hid (w4.heap[gp]? = some (.cells (vals P0).toArray 5 (0, 0))) := hhp4
        clear hP0 hhp hhp4 hrec hrec' hHq hNl hb3 hb4 RG3 R23 T2
        go_wp2_with (go_at_call 15; refine (kept_any w.heap.size g n cp (some ⟨g2, 0, none⟩) cp2 ys _ RG4 R24.has).mono ?_; rintro e w5 ⟨rfl, rfl⟩)
        go_loopw [12] (fun t W => ∃ (i : Nat) (ps : List Int), i ≤ N ∧ t = .int .i64 i ∧ ps.length = N ∧ Octets ps ∧ W.heap[gp]? = some (.cells (vals ps).toArray 5 (0, 0)) ∧ Below w2.heap.size w2 W) (fun t _ => N - (intOf t).toNat)
        case atStart => exact ⟨0, P0, by omega, rfl, HPL.out, HOP.out, HH4.out, B24⟩
        case round =>
          obtain ⟨i, ps, hi, rfl, hpl, hpo, hph, hpb⟩ := hrel
          by_cases hiN : i < N
          · have hcell : wr.cell? ⟨gp, i, none⟩ = some (.int .u8 (ps.getD i 0)) := by
              rw [cell_of_row wr gp i _ 5 (0, 0) hph]
              have := vals_get ps i (by omega)
              simpa using this
            have hfro : wr.frozen? ⟨gp, i, none⟩ = false := frozen_of_row wr gp i _ 5 hph
            have oz := hpo i
            obtain ⟨z, hz⟩ : ∃ z, ps.getD i 0 = z := ⟨_, rfl⟩
            rw [hz] at hcell oz
            obtain ⟨z0, z1⟩ := oz
            have HQ : Hid (wr.heap[gp]? = some (.cells (vals ps).toArray 5 (0, 0))) := hph
            clear hz hph
            go_wp2
            go_roundw
            case rel => exact ⟨i + 1, ps.set i ((z + 91) % 256), by omega, by go_num, by simpa using hpl, octets_set hpo i _ (by omega) (by omega), block_set HQ.out i _, hpb.setCell hgp _⟩
            case measure => simp [intOf]; omega
          · obtain rfl : i = N := by omega
            have RGw : Row wr w.heap.size g n cp ys := hRG.below hpb hg1'
            have R2w := hR2.below hpb hg21
            have BW : Below w.heap.size w wr := B2.trans (hpb.mono B2.size)
            by_cases hn8 : 8 < n
            · have c8 := RGw.cellAt 8 (by omega)
              have f8 : wr.frozen? ⟨g, 8, none⟩ = false := RGw.owns.frozenAt 8
              obtain ⟨z, hz⟩ : ∃ z, (ys ++ [201, 202]).getD 8 0 = z := ⟨_, rfl⟩
              have oz := hRG.oct 8
              have hz' : ys.getD 8 0 = z := by rw [← hz]; have := hRG.len; simp [List.getD, List.getElem?_append_left (show 8 < ys.length by omega)]
              rw [hz'] at oz
              rw [hz] at c8
              obtain ⟨z0, z1⟩ := oz
              clear hz hz'
              go_wp2_with (go_at_call 15; refine (kept_any w.heap.size g n cp (some ⟨g2, 0, none⟩) cp2 ys _ RGw R2w.has).mono ?_; rintro e w5 ⟨rfl, rfl⟩)
              go_roundw
              case rel => exact ⟨k + 1, ys.set 8 ((z + 91) % 256), by omega, by go_num, RGw.stored 8 _ hn8 (by omega) (by omega), BW.setCell hg0 _⟩
              case measure => simp [intOf]; omega
            · go_wp2_with (go_at_call 15; refine (kept_any w.heap.size g n cp (some ⟨g2, 0, none⟩) cp2 ys _ RGw R2w.has).mono ?_; rintro e w5 ⟨rfl, rfl⟩)
              go_roundw
              case rel => exact ⟨k + 1, ys, by omega, by go_num, RGw, BW⟩
              case measure => simp [intOf]; omega
    · go_wp2
      go_ret
      exact ⟨rfl, hb⟩
end Go.Proofs.YtcjefhgnmpomjaaDoor
