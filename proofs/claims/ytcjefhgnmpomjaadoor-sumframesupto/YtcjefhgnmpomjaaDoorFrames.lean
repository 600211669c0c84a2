/-
  The walk of SumFrames.
-/
import Derived.Test.YtcjefhgnmpomjaaDoorReads
namespace Go.Proofs.YtcjefhgnmpomjaaDoor
open Go.RowKit
set_option linter.unusedVariables false

set_option maxHeartbeats 4000000 in
theorem frames_any (a : Option Addr) (n cap : Nat) (c : Int) (zs : List Int) (w : World) (hP : Bs w a n cap zs) (hT : Tab w) (hl : n ≤ 17592186044416) (hc0 : 0 ≤ c) (hc1 : c < 4294967296) :
    Calls Tryd.prog 3 #[.slice a n cap, .int .u32 c] w fun e w' => e = .returned (.bool true) ∧ Below w.heap.size w w' := by
  go_enter Tryd.func3, Tryd.ntmps3
  go_wp2_with fail
  refine (lent_row a n cap zs _ hP.len hP.has hP.oct hP.bare (by omega)).mono ?_
  rintro e w1 ⟨g, cp, rfl, hR1, hb1⟩
  go_wp2_with fail
  go_loopw [6] (fun t wr => ∃ (k : Nat) (ys : List Int), k ≤ 2 ∧ t = .int .i64 k ∧ Row wr w.heap.size g n cp ys ∧ Below w.heap.size w wr) (fun t _ => 2 - (intOf t).toNat)
  case atStart => exact ⟨0, zs, by omega, rfl, hR1, hb1⟩
  case round =>
    obtain ⟨k, ys, hk, rfl, hR, hb⟩ := hrel
    clear hR1 hb1
    by_cases hlt : k < 2
    · obtain ⟨hg0, hg1⟩ := hR.lt
      go_wp2_with fail
      refine (lent_row (some ⟨g, 0, none⟩) n cp ys _ hR.len hR.has hR.oct (fun h => by cases h) (by omega)).mono ?_
      rintro e w2 ⟨g2, cp2, rfl, hR2, hb2⟩
      have hRG : Row w2 w.heap.size g n cp ys := hR.below hb2 hg1
      have B2 : Below w.heap.size w w2 := hb.trans (hb2.mono hb.size)
      have T2 : Tab w2 := hT.below B2 hT.pos
      obtain ⟨hg20, hg21⟩ := hR2.lt
      obtain ⟨hg0', hg1'⟩ := hRG.lt
      clear hR hb2 hb
      by_cases hlong : n ≤ 131072
      · go_wp2_with fail
        refine (frame_any (some ⟨g, 0, none⟩) n cp ys _ hRG.len hRG.has (fun h => by cases h) hRG.oct T2 hlong).mono ?_
        rintro e w3 ⟨gf, rfl, hown3, hb3⟩
        have R23 : Row w3 wr.heap.size g2 n cp2 ys := hR2.below hb3 hg21
        go_wp2_with fail
        refine (rframe_some ⟨g2, 0, none⟩ n cp2 ys _ R23.len R23.has.some R23.oct hlong).mono ?_
        rintro e w4 ⟨gg, cg, rfl, hown4, hb4⟩
        have HO4f := own_below hown3 hb4 (hown3.lt gf rfl).2
        have B24 : Below w2.heap.size w2 w4 := hb3.trans (hb4.mono hb3.size)
        have RG4 : Row w4 w.heap.size g n cp ys := hRG.below B24 hg1'
        have R24 : Row w4 wr.heap.size g2 n cp2 ys := hR2.below B24 hg21
        have T4 : Tab w4 := T2.below B24 T2.pos
        clear hown3 hb3 hb4 R23
        go_wp2_with fail
        refine (crc_has (some ⟨g, 0, none⟩) n cp ys _ RG4.len RG4.has RG4.oct T4 (by omega)).mono ?_
        rintro e w5 ⟨rfl, hw5⟩
        subst hw5
        go_wp2_with fail
        have B5W : Below w.heap.size w w5 := B2.trans (B24.mono B2.size)
        clear B24
        refine (rsum_any 0 (some ⟨g2, 0, none⟩) n cp2 ys _ R24.len R24.has R24.oct (by decide) (by decide) hl).mono ?_
        rintro e w6 ⟨rfl, hb6⟩
        have R26 : Row w6 wr.heap.size g2 n cp2 ys := R24.below hb6 (R24.lt).2
        have RG6 : Row w6 w.heap.size g n cp ys := RG4.below hb6 (RG4.lt).2
        have T6 : Tab w6 := T4.below hb6 T4.pos
        go_wp2_with fail
        refine (more_has c (some ⟨g, 0, none⟩) n cp ys _ RG6.len RG6.has RG6.oct T6 hc0 hc1 (by omega)).mono ?_
        rintro e w7 ⟨rfl, hw7⟩
        subst hw7
        go_wp2_with fail
        refine (rsum_any c (some ⟨g2, 0, none⟩) n cp2 ys _ R26.len R26.has R26.oct hc0 hc1 hl).mono ?_
        rintro e w8 ⟨rfl, hb8⟩
        have R28 : Row w8 wr.heap.size g2 n cp2 ys := R26.below hb8 (R26.lt).2
        have RG8 : Row w8 w.heap.size g n cp ys := RG6.below hb8 (RG6.lt).2
        have B48 : Below w5.heap.size w5 w8 := hb6.trans (hb8.mono hb6.size)
        have B8 : Below w.heap.size w w8 := B5W.trans (B48.mono B5W.size)
        have s1 := str_of w8 (some ⟨gf, 0, none⟩) (8 + n) (8 + n) (frame ys) (by rw [frame_length, R28.len]) ((own_has HO4f).of_below B48)
        have s2 := str_of w8 (some ⟨gg, 0, none⟩) (8 + n) cg (frame ys) (by rw [frame_length, R28.len]) ((own_has hown4).of_below B48)
        clear hb6 hb8 R26 RG6 T6 R24 RG4 T4 hRG hR2 B2 T2 B48 HO4f hown4
        go_wp2_with (go_at_call 15; refine (kept_any w.heap.size g n cp (some ⟨g2, 0, none⟩) cp2 ys _ RG8 R28.has).mono ?_; rintro e w9 ⟨rfl, rfl⟩)
        go_loopw [12] (fun t W => ∃ (i : Nat) (ps : List Int), i ≤ n ∧ t = .int .i64 i ∧ Row W w.heap.size g n cp ps ∧ Below w.heap.size w W) (fun t _ => n - (intOf t).toNat)
        case atStart => exact ⟨0, ys, by omega, rfl, RG8, B8⟩
        case round =>
          obtain ⟨i, ps, hi, rfl, hpR, hpB⟩ := hrel
          by_cases hiN : i < n
          · have hcell := hpR.cellAt i (by omega)
            have hfro : wr.frozen? ⟨g, i, none⟩ = false := hpR.owns.frozenAt i
            have oz := hpR.oct i
            have hz' : (ps ++ [201, 202]).getD i 0 = ps.getD i 0 := by have := hpR.len; simp [List.getD, List.getElem?_append_left (show i < ps.length by omega)]
            rw [hz'] at hcell
            obtain ⟨z, hz⟩ : ∃ z, ps.getD i 0 = z := ⟨_, rfl⟩
            rw [hz] at hcell oz
            obtain ⟨z0, z1⟩ := oz
            clear hz hz'
            go_wp2
            go_roundw
            case rel => exact ⟨i + 1, ps.set i ((z + 91) % 256), by omega, by go_num, hpR.stored i _ hiN (by omega) (by omega), hpB.setCell hg0 _⟩
            case measure => simp [intOf]; omega
          · go_wp2
            go_roundw
            case rel => exact ⟨k + 1, ps, by omega, by go_num, hpR, hpB⟩
            case measure => simp [intOf]; omega
      · go_wp2_with fail
        refine (frame_long (some ⟨g, 0, none⟩) n cp _ (by omega) (by omega)).mono ?_
        rintro e w3 ⟨rfl, hw3⟩
        subst hw3
        go_wp2_with fail
        refine (rframe_long (some ⟨g2, 0, none⟩) n cp2 _ (by omega) (by omega)).mono ?_
        rintro e w4 ⟨rfl, hw4⟩
        subst hw4
        have RG4 := hRG
        have R24 := hR2
        have T4 := T2
        have B5W := B2
        go_wp2_with fail
        refine (crc_has (some ⟨g, 0, none⟩) n cp ys _ RG4.len RG4.has RG4.oct T4 (by omega)).mono ?_
        rintro e w5 ⟨rfl, hw5⟩
        subst hw5
        go_wp2_with fail
        refine (rsum_any 0 (some ⟨g2, 0, none⟩) n cp2 ys _ R24.len R24.has R24.oct (by decide) (by decide) hl).mono ?_
        rintro e w6 ⟨rfl, hb6⟩
        have R26 : Row w6 wr.heap.size g2 n cp2 ys := R24.below hb6 (R24.lt).2
        have RG6 : Row w6 w.heap.size g n cp ys := RG4.below hb6 (RG4.lt).2
        have T6 : Tab w6 := T4.below hb6 T4.pos
        go_wp2_with fail
        refine (more_has c (some ⟨g, 0, none⟩) n cp ys _ RG6.len RG6.has RG6.oct T6 hc0 hc1 (by omega)).mono ?_
        rintro e w7 ⟨rfl, hw7⟩
        subst hw7
        go_wp2_with fail
        refine (rsum_any c (some ⟨g2, 0, none⟩) n cp2 ys _ R26.len R26.has R26.oct hc0 hc1 hl).mono ?_
        rintro e w8 ⟨rfl, hb8⟩
        have R28 : Row w8 wr.heap.size g2 n cp2 ys := R26.below hb8 (R26.lt).2
        have RG8 : Row w8 w.heap.size g n cp ys := RG6.below hb8 (RG6.lt).2
        have B48 : Below w5.heap.size w5 w8 := hb6.trans (hb8.mono hb6.size)
        have B8 : Below w.heap.size w w8 := B5W.trans (B48.mono B5W.size)
        have s1 := str_of w8 none 0 0 [] rfl (.inl ⟨rfl, rfl⟩)
        clear hb6 hb8 R26 RG6 T6 R24 RG4 T4 hRG hR2 B2 T2 B48
        go_wp2_with (go_at_call 15; refine (kept_any w.heap.size g n cp (some ⟨g2, 0, none⟩) cp2 ys _ RG8 R28.has).mono ?_; rintro e w9 ⟨rfl, rfl⟩)
        go_loopw [12] (fun t W => ∃ (i : Nat) (ps : List Int), i ≤ n ∧ t = .int .i64 i ∧ Row W w.heap.size g n cp ps ∧ Below w.heap.size w W) (fun t _ => n - (intOf t).toNat)
        case atStart => exact ⟨0, ys, by omega, rfl, RG8, B8⟩
        case round =>
          obtain ⟨i, ps, hi, rfl, hpR, hpB⟩ := hrel
          by_cases hiN : i < n
          · have hcell := hpR.cellAt i (by omega)
            have hfro : wr.frozen? ⟨g, i, none⟩ = false := hpR.owns.frozenAt i
            have oz := hpR.oct i
            have hz' : (ps ++ [201, 202]).getD i 0 = ps.getD i 0 := by have := hpR.len; simp [List.getD, List.getElem?_append_left (show i < ps.length by omega)]
            rw [hz'] at hcell
            obtain ⟨z, hz⟩ : ∃ z, ps.getD i 0 = z := ⟨_, rfl⟩
            rw [hz] at hcell oz
            obtain ⟨z0, z1⟩ := oz
            clear hz hz'
            go_wp2
            go_roundw
            case rel => exact ⟨i + 1, ps.set i ((z + 91) % 256), by omega, by go_num, hpR.stored i _ hiN (by omega) (by omega), hpB.setCell hg0 _⟩
            case measure => simp [intOf]; omega
          · go_wp2
            go_roundw
            case rel => exact ⟨k + 1, ps, by omega, by go_num, hpR, hpB⟩
            case measure => simp [intOf]; omega
    · go_wp2
      go_ret
      exact ⟨rfl, hb⟩
end Go.Proofs.YtcjefhgnmpomjaaDoor
