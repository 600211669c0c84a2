/- DrawWeights' walk. -/
import Derived.Test.YtfolfeaednmcoaaWeights
namespace Go.Proofs.Ytfolfeaednmcoaa
open Go.RowKit Ieee
set_option linter.unusedVariables false
set_option linter.unusedSimpArgs false
theorem but_drew {g : Nat} {A B : World} (h : But g A B) (q : Nat) : But g A (B.drewN q) := h.trans ⟨rfl, rfl, rfl, Nat.le_refl _, fun _ _ _ => rfl⟩
theorem Frow.drew {w : World} {base g n cap : Nat} {zs : List Nat} (h : Frow w base g n cap zs) (q : Nat) : Frow (w.drewN q) base g n cap zs :=
  h.below (below_drewN (Below.refl w.heap.size w) q) h.lt.2
set_option maxRecDepth 100000 in
set_option maxHeartbeats 2000000 in
theorem weights_any (a : Option Addr) (n cap : Nat) (zs : List Nat) (p x : Nat) (w : World) (hp : p < 18446744073709551616) (hF : Fl w a n zs) (hb : a = none → cap = 0) :
    Calls Try.prog 4 #[.int .u64 p, .slice a n cap, .float .f64 x] w fun e w' => e = .returned (.bool true) ∧ Below w.heap.size w w' := by
  have hl := lent_any a n cap zs w hF hb
  go_enter Try.func4, Try.ntmps4
  go_wp2_with fail
  refine hl.mono ?_
  rintro e w1 ⟨g, c, rfl, R1, L1⟩
  have HR1 : Hid (Frow w1 w.heap.size g n c zs) := R1
  have HL1 : Hid (Below w.heap.size w w1) := L1
  have hs := R1.small
  clear hl hF hb R1 L1
  go_wp2_with fail
  go_loopw [8] (fun t wr => ∃ (k : Nat) (zs : List Nat), k ≤ 2 ∧ t = .int .i64 k ∧ Hid (Frow wr w.heap.size g n c zs) ∧ Hid (Below w.heap.size w wr)) (fun t _ => 2 - (intOf t).toNat)
  case atStart => exact ⟨0, zs, by omega, rfl, HR1, HL1⟩
  case round =>
    clear HR1 HL1
    obtain ⟨k, zs, hk, rfl, HR, HL⟩ := hrel
    by_cases hlt : k < 2
    · have k0 : (k : Int) < 2 := by omega
      go_wp2_with fail
      refine (lent_any _ n c zs wr HR.out.fl (fun h => by cases h)).mono ?_
      rintro e w2 ⟨g2, c2, rfl, R2, L2⟩
      have HI : Hid (Frow w2 wr.heap.size g2 n c2 zs) := R2
      have HR2 : Hid (Frow w2 w.heap.size g n c zs) := HR.out.below L2 HR.out.lt.2
      have HL2 : Hid (Below w.heap.size w w2) := HL.out.trans (L2.mono HL.out.size)
      have HG2 : Hid (g < w2.heap.size ∧ g2 < w2.heap.size) := ⟨HR2.out.lt.2, R2.lt.2⟩
      clear HR HL R2 L2
      go_wp2_with fail
      refine (cum_any _ n c zs w2 HR2.out.fl (by have := HR2.out.cap; omega) HR2.out.cap.2).mono ?_
      rintro e w3 ⟨al, nl, cl, L, er, rfl, O3, F3, B3, L3⟩
      have HO3 : Hid (Out zs nl L er) := O3
      have HF3 : Hid (Fl w3 al nl L) := F3
      have HB3 : Hid (∀ b o, al = some ⟨b, o, none⟩ → b ≠ g) := fun b o e => by have := B3 b o e; have := HG2.out.1; omega
      have HR3 : Hid (Frow w3 w.heap.size g n c zs) := HR2.out.below L3 HG2.out.1
      have HI3 : Hid (Frow w3 wr.heap.size g2 n c2 zs) := HI.out.below L3 HG2.out.2
      have HL3 : Hid (Below w.heap.size w w3) := HL2.out.trans (L3.mono HL2.out.size)
      have HG3 : Hid (g < w3.heap.size ∧ g2 < w3.heap.size) := ⟨HR3.out.lt.2, HI3.out.lt.2⟩
      clear O3 F3 B3 L3 HR2 HI HL2 HG2
      go_wp2_with fail
      refine (rcum_any _ n c2 zs w3 HI3.out.fl).mono ?_
      rintro e w4 ⟨am, nm, cm, M, em, rfl, O4, F4, B4, L4⟩
      obtain ⟨rfl, rfl, rfl⟩ := HO3.out.one O4
      have HF4 : Hid (Fl w4 al nl L ∧ Fl w4 am nl L) := ⟨HF3.out.of_below L4, F4⟩
      have HB4 : Hid (∀ b o, am = some ⟨b, o, none⟩ → b ≠ g) := fun b o e => by have := B4 b o e; have := HG3.out.1; omega
      have HR4 : Hid (Frow w4 w.heap.size g n c zs) := HR3.out.below L4 HG3.out.1
      have HI4 : Hid (Frow w4 wr.heap.size g2 n c2 zs) := HI3.out.below L4 HG3.out.2
      have HL4 : Hid (Below w.heap.size w w4) := HL3.out.trans (L4.mono HL3.out.size)
      have HG4 : Hid (g < w4.heap.size ∧ g2 < w4.heap.size) := ⟨HR4.out.lt.2, HI4.out.lt.2⟩
      clear O4 F4 B4 L4 HR3 HI3 HL3 HG3 HO3 HF3
      go_wp2_with fail
      refine (pickO p _ n c zs w4 hp HR4.out.fl (by have := HR4.out.cap; omega) HR4.out.cap.2).mono ?_
      rintro e w5 ⟨pk, pe, P5, rfl, L5⟩
      have HP5 : Hid (POut zs (p / 2048) pk pe) := P5
      have HF5 : Hid (Fl w5 al nl L ∧ Fl w5 am nl L) := ⟨HF4.out.1.of_below L5, HF4.out.2.of_below L5⟩
      have HR5 : Hid (Frow w5 w.heap.size g n c zs) := HR4.out.below L5 HG4.out.1
      have HI5 : Hid (Frow w5 wr.heap.size g2 n c2 zs) := HI4.out.below L5 HG4.out.2
      have HL5 : Hid (Below w.heap.size w w5) := HL4.out.trans (L5.mono HL4.out.size)
      have HG5 : Hid (g < w5.heap.size ∧ g2 < w5.heap.size) := ⟨HR5.out.lt.2, HI5.out.lt.2⟩
      clear P5 L5 HR4 HI4 HL4 HG4 HF4
      go_wp2_with fail
      refine (rpickO p _ n c2 zs w5 hp HI5.out.fl).mono ?_
      rintro e w6 ⟨qk, qe, P6, rfl, L6⟩
      obtain ⟨rfl, rfl⟩ := HP5.out.one P6
      have HF6 : Hid (Fl w6 al nl L ∧ Fl w6 am nl L) := ⟨HF5.out.1.of_below L6, HF5.out.2.of_below L6⟩
      have HR6 : Hid (Frow w6 w.heap.size g n c zs) := HR5.out.below L6 HG5.out.1
      have HI6 : Hid (Frow w6 wr.heap.size g2 n c2 zs) := HI5.out.below L6 HG5.out.2
      have HL6 : Hid (Below w.heap.size w w6) := HL5.out.trans (L6.mono HL5.out.size)
      clear P6 L6 HR5 HI5 HL5 HG5 HF5 HP5
      go_wp2_with fail
      refine (placeO _ n c zs x w6 HR6.out.fl).mono ?_
      rintro e w7 ⟨rfl, ak, af, P7, rfl⟩
      have HP7 : Hid (PlOut zs x ak af) := P7
      clear P7
      go_wp2_with fail
      refine (rplaceO _ n c2 zs x w7 HI6.out.fl).mono ?_
      rintro e w8 ⟨rfl, bk, bf, P8, rfl⟩
      obtain ⟨rfl, rfl⟩ := HP7.out.one P8
      clear P8 HP7
      go_wp2_with fail
      refine (reals_any al am nl cl cm L w8 HF6.out.1 HF6.out.2).mono ?_
      rintro e w9 ⟨rfl, q9, rfl⟩
      have HF9 : Hid (Fl (w8.drewN q9) al nl L ∧ Fl (w8.drewN q9) am nl L) := ⟨HF6.out.1.drew q9, HF6.out.2.drew q9⟩
      have HR9 : Hid (Frow (w8.drewN q9) w.heap.size g n c zs) := HR6.out.drew q9
      have HI9 : Hid (Frow (w8.drewN q9) wr.heap.size g2 n c2 zs) := HI6.out.drew q9
      have HL9 : Hid (Below w.heap.size w (w8.drewN q9)) := below_drewN HL6.out q9
      obtain ⟨w9, hw9⟩ : ∃ W, w8.drewN q9 = W := ⟨_, rfl⟩
      rw [hw9] at HF9 HR9 HI9 HL9 ⊢
      clear HF6 HR6 HI6 HL6 hw9
      cases af
      all_goals
        go_wp2_with fail
        refine (kept_any _ g n c _ c2 zs w9 HR9.out HI9.out.fl).mono ?_
        rintro e w10 ⟨rfl, q10, rfl⟩
        have HF10 : Hid (Fl (w9.drewN q10) al nl L ∧ Fl (w9.drewN q10) am nl L) := ⟨HF9.out.1.drew q10, HF9.out.2.drew q10⟩
        have HR10 : Hid (Frow (w9.drewN q10) w.heap.size g n c zs) := HR9.out.drew q10
        have HL10 : Hid (Below w.heap.size w (w9.drewN q10)) := below_drewN HL9.out q10
        obtain ⟨WS, hWS⟩ : ∃ W, w9.drewN q10 = W := ⟨_, rfl⟩
        rw [hWS] at HF10 HR10 HL10 ⊢
        clear HF9 HR9 HI9 HL9 hWS
        go_wp2_with fail
        go_loopw [22] (fun t wx => ∃ (j : Nat) (zs : List Nat), j ≤ n ∧ t = .int .i64 j ∧ Hid (Frow wx w.heap.size g n c zs) ∧ Hid (But g WS wx)) (fun t _ => n - (intOf t).toNat)
        case atStart => exact ⟨0, zs, by omega, rfl, HR10, But.refl g WS⟩
        case round =>
          clear HR10
          obtain ⟨j, zs, hj, rfl, HR, HU⟩ := hrel
          by_cases hjn : j < n
          · obtain ⟨_, _, e0, hc⟩ := HR.out.fl.cap j hjn
            cases e0
            have c1 := hc j hjn
            rw [Nat.zero_add] at c1
            have z1 : wr.frozen? ⟨g, j, none⟩ = false := by
              obtain ⟨cur, hcur, _⟩ := own_heap HR.out.owns
              simp [World.frozen?, hcur]
            have j0 : (0 : Int) ≤ j := by omega
            have j1 : (j : Int) < n := by omega
            obtain ⟨z, hz⟩ : ∃ z, zs.getD j 0 = z := ⟨_, rfl⟩
            rw [hz] at c1
            obtain ⟨r1, q1, h1⟩ := arith_any .quo z 4611686018427387904 wr (.inr (.inr rfl))
            obtain ⟨r2, q2, h2⟩ := arith_any .add r1 4607182418800017408 (wr.drewN q1) (.inl rfl)
            have st := st_float
            clear hz hc
            go_wp2_with fail
            go_roundw
            case rel => exact ⟨j + 1, zs.set j r2, by omega, by go_num, (HR.out.drew _).set j hjn r2, (but_drew HU.out _).trans (But.set j _)⟩
            case measure => simp [intOf]; omega
          · obtain rfl : j = n := by omega
            have hFa := HF10.out.1.but HU.out HB3.out
            have hFb := HF10.out.2.but HU.out HB4.out
            have hre := reals_any al am nl cl cm L wr hFa hFb
            have HLx : Hid (Below w.heap.size w wr) := HL10.out.trans (HU.out.below HL10.out.size HR.out.lt.1)
            clear hFa hFb HF10 HL10 HU
            go_wp2_with fail
            refine hre.mono ?_
            rintro e w12 ⟨rfl, q12, rfl⟩
            clear hre
            go_wp2_with fail
            go_roundw
            case rel => exact ⟨k + 1, zs, by omega, by go_num, HR.out.drew q12, below_drewN HLx.out q12⟩
            case measure => simp [intOf]; omega
    · obtain rfl : k = 2 := by omega
      go_wp2_with fail
      go_ret
      exact ⟨rfl, HL.out⟩
theorem weights_walk (a : Option Addr) (n cap : Nat) (zs : List Nat) (p : Int) (x : Nat) (w : World) (hF : Fl w a n zs) (hb : a = none → cap = 0) (h : 0 ≤ p ∧ p ≤ 18446744073709551615) :
    Calls Try.prog 4 #[.int .u64 p, .slice a n cap, .float .f64 x] w fun e w' => e = .returned (.bool true) ∧ Below w.heap.size w w' := by
  obtain ⟨m, rfl⟩ := Int.eq_ofNat_of_zero_le h.1
  exact weights_any a n cap zs m x w (by omega) hF hb
end Go.Proofs.Ytfolfeaednmcoaa
