/- HealthRises: rows that end, plain; the walk. -/
import Derived.Test.YtlgpohjffahbcaaHo
namespace Go.Proofs.Ytlgpohjffahbcaa
open Go.RowKit Ieee
set_option linter.unusedVariables false
set_option linter.unusedSimpArgs false
/-- how many probes behind each other, none ahead of sn, are unlike u, up to the i-th -/
def trl (L : List (Bool × Nat)) (sn : Nat) (u : Bool) : Nat → Nat
  | 0 => 0
  | i + 1 => if sn ≤ i ∧ (L.getD i (false, 0)).1 ≠ u then trl L sn u i + 1 else 0
theorem trl_le (L : List (Bool × Nat)) (sn : Nat) (u : Bool) : ∀ i, trl L sn u i ≤ i - sn
  | 0 => by simp [trl]
  | i + 1 => by
    have := trl_le L sn u i
    unfold trl
    split
    · rename_i h; omega
    · omega
theorem trl_end (L : List (Bool × Nat)) (sn : Nat) (u : Bool) : trl L sn u sn = 0 := by have := trl_le L sn u sn; omega
def trow (s : St) : Int := if s.up then max (-s.row) 0 else max s.row 0
def wnt (s : St) : Int := if s.up then s.fall else s.rise
/-- one probe more: it turns just if it ends such a row -/
theorem rises_step {L : List (Bool × Nat)} {sn i : Nat} {s : St} {n : Nat} (hs : Ok s n) (hsn : sn ≤ i) (ht : (trl L sn s.up i : Int) = trow s) {ok : Bool} {t : Nat} (hp : L.getD i (false, 0) = (ok, t)) :
    (wnt s ≤ (trl L sn s.up (i + 1) : Int) → (s.probe ok t).up = !s.up ∧ (s.probe ok t).turns = s.turns + 1 ∧ (s.probe ok t).row = 0 ∧ trow (s.probe ok t) = 0) ∧
    (¬ wnt s ≤ (trl L sn s.up (i + 1) : Int) → (s.probe ok t).up = s.up ∧ (s.probe ok t).turns = s.turns ∧ (trl L sn s.up (i + 1) : Int) = trow (s.probe ok t)) := by
  obtain ⟨p1, p2, p3, _⟩ := probe_parts s ok t
  have hf := hs.f1; have hr := hs.r1; have hu1 := hs.u1; have hd1 := hs.d1
  have htr : trow (s.probe ok t) = if (s.rowed ok).up then max (-(s.rowed ok).row) 0 else max (s.rowed ok).row 0 := by unfold trow; rw [p1, p2]
  rw [p1, p2, p3, htr]
  have e : trl L sn s.up (i + 1) = if ok ≠ s.up then trl L sn s.up i + 1 else 0 := by
    show (if sn ≤ i ∧ (L.getD i (false, 0)).1 ≠ s.up then trl L sn s.up i + 1 else 0) = _
    rw [hp]
    by_cases h : ok = s.up <;> simp [h, hsn]
  rw [e]
  unfold St.rowed lng thr wnt
  unfold trow at ht
  generalize trl L sn s.up i = c at *
  cases hu : s.up
  · rw [hu] at ht
    have := hd1 hu
    cases ok
    · simp
      constructor
      · intro h; omega
      · intro h
        rw [if_neg (by omega)]
        refine ⟨rfl, rfl, ?_⟩
        simp; omega
    · simp at ht ⊢
      constructor
      · intro h
        rw [if_pos (by omega)]
        simp [hu]
      · intro h
        rw [if_neg (by omega)]
        refine ⟨rfl, rfl, ?_⟩
        simp; omega
  · rw [hu] at ht
    have := hu1 hu
    cases ok
    · simp at ht ⊢
      constructor
      · intro h
        rw [if_pos (by omega)]
        simp [hu]
      · intro h
        rw [if_neg (by omega)]
        refine ⟨rfl, rfl, ?_⟩
        simp; omega
    · simp
      constructor
      · intro h; omega
      · intro h
        rw [if_neg (by omega)]
        refine ⟨rfl, rfl, ?_⟩
        simp; omega
/-- what holds at the head of a round -/
structure Rh (w2 wr : World) (L : List (Bool × Nat)) (b k sn : Nat) (rise fall : Int) (s : St) : Prop where
  hs : Hs wr b s
  ok : Ok s k
  sle : sn ≤ k
  tr : (trl L sn s.up k : Int) = trow s
  rf : s.rise = rise ∧ s.fall = fall
  stp : Stp w2 wr [b] [b]
set_option maxRecDepth 100000 in
set_option maxHeartbeats 4000000 in
theorem rises_any (rise fall : Int) (a : Option Addr) (c : Nat) (L : List (Bool × Nat)) (w : World) (hr : -9223372036854775808 ≤ rise ∧ rise ≤ 9223372036854775807) (hf : -9223372036854775808 ≤ fall ∧ fall ≤ 9223372036854775807) (hp : Pin w a c L) :
    Calls Try.prog 5 #[.int .i64 rise, .int .i64 fall, .slice a L.length c] w fun e w' => e = .returned (.bool true) ∧ Below w.heap.size w w' := by
  have HP := hide2 hp
  have hlen := hp.len
  have ha := awake_any w
  obtain ⟨n, hn⟩ : ∃ n, L.length = n := ⟨_, rfl⟩
  have HN := hide2 hn
  rw [hn] at hlen ⊢
  clear hp hn
  by_cases hT : okT rise fall
  · have HTT := hide2 hT
    go_enter Try.func5, Try.ntmps5
    go_wp2_with fail
    refine ha.mono ?_
    rintro e w1 ⟨rfl, hb1⟩
    have HB1 := hide2 hb1
    have hne := new_ok rise fall w1 hT
    clear ha hb1 hr hf hT
    go_wp2_with fail
    refine hne.mono ?_
    rintro e w2 ⟨rfl, h2, hb2⟩
    have H2 := hide2 h2
    have HB2 := hide2 (HB1.out.trans (hb2.mono HB1.out.size))
    obtain ⟨b, hb⟩ : ∃ b, w1.heap.size = b := ⟨_, rfl⟩
    have hbw : w.heap.size ≤ b := by rw [← hb]; exact HB1.out.size
    have HBW := hide2 hbw
    rw [hb] at h2 ⊢
    have HS := hide2 h2
    clear hne h2 hb2 hb hbw
    go_wp2_with fail
    go_loopw [9, 10] (fun t9 t10 wr => ∃ k sn : Nat, k ≤ n ∧ k ≤ 400 ∧ t9 = .int .i64 sn ∧ t10 = .int .i64 k ∧ Hid (∃ s, Rh w2 wr L b k sn rise fall s)) (fun _ t10 _ => n - (intOf t10).toNat)
    case atStart => exact ⟨0, 0, by omega, by omega, rfl, rfl, (⟨_, HS.out, Ok.new HTT.out, Nat.le_refl _, rfl, ⟨rfl, rfl⟩, Stp.refl _ _⟩ : ∃ s, Rh w2 w2 L b 0 0 rise fall s)⟩
    case round =>
      obtain ⟨k, sn, hk, hk4, rfl, rfl, HV⟩ := hrel
      obtain ⟨s, hR⟩ := HV.out
      have HT := hide2 hR
      have k0 : (0 : Int) ≤ k := by omega
      have hBr : Below w.heap.size w wr := HB2.out.trans (hR.stp.below (fun x hx => by have := HBW.out; simp at hx; omega) HB2.out.size)
      have HBR := hide2 hBr
      by_cases hlt : k < n ∧ k < 400
      · obtain ⟨h1, h2⟩ := hlt
        obtain ⟨g, off, rfl, q1, q2, hq⟩ := (HP.out.below hBr).at_ (k := k) (by have := HN.out; omega)
        obtain ⟨⟨ok, t⟩, hp⟩ : ∃ p, L.getD k (false, 0) = p := ⟨_, rfl⟩
        have HPP := hide2 hp
        rw [hp] at q1 q2 hq
        have c1 := healthy_any _ _ _ wr hR.hs.pv
        have c2 := turns_any _ _ _ wr hR.hs.pv
        have HP1 := hide2 (probe_any b s k ok t wr.drew hR.hs hR.ok (by omega) hq)
        have HK := hide2 (And.intro h1 h2)
        have k1 : (k : Int) < n := by omega
        have k2 : (k : Int) < 400 := by omega
        have hg : g < w.heap.size := by
          obtain ⟨g', off', e', q1', _⟩ := HP.out.at_ (k := k) (by have := HN.out; omega)
          cases e'; exact World.block_lt_of_cell? w _ q1'
        have HG := hide2 hg
        have hstp := HT.out.stp
        have HCell : Hid (∀ wx, Stp wr wx [b] [b] → ∀ j, j < n → wx.cell? ⟨g, off + j * 2, none⟩ = some (.bool (L.getD j (false, 0)).1) ∧ wx.cell? ⟨g, off + j * 2 + 1, none⟩ = some (.float .f64 (L.getD j (false, 0)).2)) := fun wx hx j hj => by
          have hbx : Below w.heap.size w wx := HBR.out.trans (hx.below (fun x hx => by have := HBW.out; simp at hx; omega) HBR.out.size)
          obtain ⟨g', off', e', r1, r2, _⟩ := (HP.out.below hbx).at_ (k := j) (by have := HN.out; omega)
          cases e'; exact ⟨r1, r2⟩
        clear hR hBr h1 h2 hk hk4 hq hp hg hstp
        go_wp2_with (first
          | (go_at_call 20; refine c1.mono ?_; rintro e w7 ⟨rfl, rfl⟩)
          | (go_at_call 21; refine c2.mono ?_; rintro e w7 ⟨rfl, rfl⟩))
        go_region_held3 (fun w' => w'.cell? ⟨g, off + k * 2, none⟩ = some (.bool ok) ∧ w'.cell? ⟨g, off + k * 2 + 1, none⟩ = some (.float .f64 t)) (go_keep)
          (first | (go_at_call 11; refine HP1.out.mono ?_; rintro e w8 ⟨rfl, h8, s8⟩; have H8 := hide2 h8; have S8 := hide2 ((Stp.of_below [b] (Below.refl _ _).drew).trans s8); obtain ⟨f1, f2⟩ := HCell.out w8 S8.out k HK.out.1; rw [HPP.out] at f1 f2; clear h8 s8))
        cases hu : s.up with
        | true =>
          have HU := hide2 hu
          have HW : Hid (wnt s = fall) := by unfold Hid wnt; rw [hu]; exact HT.out.rf.2
          clear hu f1 f2
          go_wp2_with fail
          go_loopw [14, 15] (fun t14 t15 wx => ∃ (c1 : Nat) (x : Int), t14 = .int .i64 c1 ∧ t15 = .int .i64 x ∧ x + c1 = k ∧ c1 ≤ k + 1 ∧ Hid (trl L sn true (k + 1) = c1 + trl L sn true (k + 1 - c1)) ∧ w8 = wx) (fun t14 _ _ => k + 1 - (intOf t14).toNat)
          case atStart => exact ⟨0, k, rfl, rfl, by omega, by omega, (by unfold Hid; simp), rfl⟩
          case round =>
            obtain ⟨c1, x, rfl, rfl, hx, hc1, HCT, rfl⟩ := hrel
            have HXC := hide2 (And.intro hx hc1)
            by_cases hge : (sn : Int) ≤ x
            · obtain ⟨j, hj⟩ : ∃ j : Nat, x = (j : Int) := ⟨x.toNat, by omega⟩
              subst hj
              obtain ⟨f1, f2⟩ := HCell.out w8 S8.out j (by have := HK.out; omega)
              obtain ⟨oj, hoj⟩ : ∃ oj, (L.getD j (false, 0)).1 = oj := ⟨_, rfl⟩
              have HOJ := hide2 hoj
              rw [hoj] at f1
              have j1 : (j : Int) < n := by omega
              have j0 : (0 : Int) ≤ j := by omega
              have HGE := hide2 hge
              have hjk : k + 1 - c1 = j + 1 := by omega
              have HJK := hide2 hjk
              have hc9 : (c1 : Int) ≤ 500 := by omega
              clear hx hc1 f2 hoj hjk
              cases oj
              · go_wp2_with fail
                go_roundw
                case rel =>
                  refine ⟨c1 + 1, (j : Int) - 1, by go_num, by go_num, by have := HXC.out; omega, by have := HXC.out; omega, ?_, trivial⟩
                  have h1 := HCT.out
                  rw [HJK.out] at h1
                  have h2 : trl L sn true (j + 1) = trl L sn true j + 1 := by
                    show (if sn ≤ j ∧ (L.getD j (false, 0)).1 ≠ true then trl L sn true j + 1 else 0) = _
                    rw [if_pos ⟨by have := HGE.out; omega, by rw [HOJ.out]; decide⟩]
                  unfold Hid
                  rw [h1, h2, show k + 1 - (c1 + 1) = j by have := HJK.out; omega]; omega
                case measure => simp [intOf]; have := HXC.out; omega
              · have hend : trl L sn true (k + 1) = c1 := by
                  have h1 := HCT.out
                  rw [HJK.out] at h1
                  have h2 : trl L sn true (j + 1) = 0 := by
                    show (if sn ≤ j ∧ (L.getD j (false, 0)).1 ≠ true then trl L sn true j + 1 else 0) = _
                    rw [if_neg (fun h => h.2 HOJ.out)]
                  rw [h2] at h1; omega
                have HCE : Hid ((trl L sn s.up (k + 1) : Int) = c1) := by unfold Hid; rw [HU.out, hend]
                have rs := rises_step HT.out.ok HT.out.sle HT.out.tr HPP.out
                clear hend
                by_cases htg : wnt s ≤ (trl L sn s.up (k + 1) : Int)
                · have PR := hide2 (rs.1 htg)
                  have hW : fall ≤ (c1 : Int) := by have := htg; rw [HCE.out, HW.out] at this; exact this
                  have t20 : Calls Try.prog 20 #[.pointer (some ⟨b, 0, none⟩)] w8 fun e w' => e = .returned (.bool false) ∧ w' = w8 := by
                    have e := healthy_any _ _ _ w8 H8.out.pv
                    have e2 : (some (s.probe ok t) : Option St).elim false St.up = false := by show (s.probe ok t).up = false; rw [PR.out.1, HU.out]; rfl
                    rw [e2] at e; exact e
                  have t21 : Calls Try.prog 21 #[.pointer (some ⟨b, 0, none⟩)] w8 fun e w' => e = .returned (.int .i64 ((s.turns : Int) + 1)) ∧ w' = w8 := by
                    have e := turns_any _ _ _ w8 H8.out.pv
                    have e2 : ((some (s.probe ok t) : Option St).elim 0 fun s => (s.turns : Int)) = ((s.turns : Int) + 1) := by show ((s.probe ok t).turns : Int) = _; rw [PR.out.2.1]; omega
                    rw [e2] at e; exact e
                  have htn : (s.turns : Int) ≤ 400 := by have := HT.out.ok.turns; have := HK.out; omega
                  obtain ⟨T, hTn⟩ : ∃ T : Int, (s.turns : Int) = T := ⟨_, rfl⟩
                  rw [hTn] at t21 htn
                  have hT0 : 0 ≤ T := by omega
                  simp only [hTn]
                  have t22 : Calls Try.prog 22 #[.pointer (some ⟨b, 0, none⟩)] w8 fun e w' => e = .returned (.int .i64 0) ∧ w' = w8 := by
                    have e := row_any _ _ _ w8 H8.out.pv
                    have e2 : (some (s.probe ok t) : Option St).elim 0 St.row = 0 := PR.out.2.2.1
                    rw [e2] at e; exact e
                  clear htg rs hTn
                  go_wp2_with (first
                    | (go_at_call 20; refine t20.mono ?_; rintro e w9 ⟨rfl, rfl⟩)
                    | (go_at_call 21; refine t21.mono ?_; rintro e w9 ⟨rfl, rfl⟩)
                    | (go_at_call 22; refine t22.mono ?_; rintro e w9 ⟨rfl, rfl⟩))
                  go_roundw
                  case rel =>
                    refine ⟨k + 1, (k + 1), by have := HK.out; omega, by have := HK.out; omega, by go_num, by go_num, (⟨_, H8.out, HT.out.ok.probe _ _, Nat.le_refl _, ?_, ?_, HT.out.stp.trans S8.out⟩ : ∃ s, Rh w2 _ L b (k + 1) (k + 1) rise fall s)⟩
                    · rw [PR.out.2.2.2]; have := trl_end L (k + 1) (s.probe ok t).up; omega
                    · have := probe_keeps s ok t; exact ⟨this.1.trans HT.out.rf.1, this.2.trans HT.out.rf.2⟩
                  case measure => simp [intOf]; have := HK.out; omega
                · have PR := hide2 (rs.2 htg)
                  have hW : ¬ fall ≤ (c1 : Int) := by have := htg; rw [HCE.out, HW.out] at this; exact this
                  have t20 : Calls Try.prog 20 #[.pointer (some ⟨b, 0, none⟩)] w8 fun e w' => e = .returned (.bool true) ∧ w' = w8 := by
                    have e := healthy_any _ _ _ w8 H8.out.pv
                    have e2 : (some (s.probe ok t) : Option St).elim false St.up = true := by show (s.probe ok t).up = true; rw [PR.out.1, HU.out]
                    rw [e2] at e; exact e
                  have t21 : Calls Try.prog 21 #[.pointer (some ⟨b, 0, none⟩)] w8 fun e w' => e = .returned (.int .i64 (s.turns : Int)) ∧ w' = w8 := by
                    have e := turns_any _ _ _ w8 H8.out.pv
                    have e2 : ((some (s.probe ok t) : Option St).elim 0 fun s => (s.turns : Int)) = (s.turns : Int) := by show ((s.probe ok t).turns : Int) = _; rw [PR.out.2.1]
                    rw [e2] at e; exact e
                  have htn : (s.turns : Int) ≤ 400 := by have := HT.out.ok.turns; have := HK.out; omega
                  obtain ⟨T, hTn⟩ : ∃ T : Int, (s.turns : Int) = T := ⟨_, rfl⟩
                  rw [hTn] at t21 htn
                  have hT0 : 0 ≤ T := by omega
                  simp only [hTn]
                  have hne : (T == T + 1) = false := by simp; omega
                  have heq : (T == T) = true := by simp
                  clear htg rs hTn
                  go_wp2_with (first
                    | (go_at_call 20; refine t20.mono ?_; rintro e w9 ⟨rfl, rfl⟩)
                    | (go_at_call 21; refine t21.mono ?_; rintro e w9 ⟨rfl, rfl⟩))
                  go_roundw
                  case rel =>
                    refine ⟨k + 1, sn, by have := HK.out; omega, by have := HK.out; omega, rfl, by go_num, (⟨_, H8.out, HT.out.ok.probe _ _, Nat.le_succ_of_le HT.out.sle, ?_, ?_, HT.out.stp.trans S8.out⟩ : ∃ s, Rh w2 _ L b (k + 1) sn rise fall s)⟩
                    · rw [PR.out.1]; exact PR.out.2.2
                    · have := probe_keeps s ok t; exact ⟨this.1.trans HT.out.rf.1, this.2.trans HT.out.rf.2⟩
                  case measure => simp [intOf]; have := HK.out; omega

            · have hend : trl L sn true (k + 1) = c1 := by
                have h1 := HCT.out
                rcases Nat.eq_zero_or_pos (k + 1 - c1) with h0 | h0
                · rw [h0] at h1; exact h1
                · obtain ⟨j, hj⟩ : ∃ j, k + 1 - c1 = j + 1 := ⟨k - c1, by omega⟩
                  rw [hj] at h1
                  have h2 : trl L sn true (j + 1) = 0 := by
                    show (if sn ≤ j ∧ (L.getD j (false, 0)).1 ≠ true then trl L sn true j + 1 else 0) = _
                    rw [if_neg (fun h => by have := h.1; omega)]
                  rw [h2] at h1; omega
              clear hx hc1
              have HCE : Hid ((trl L sn s.up (k + 1) : Int) = c1) := by unfold Hid; rw [HU.out, hend]
              have rs := rises_step HT.out.ok HT.out.sle HT.out.tr HPP.out
              clear hend
              by_cases htg : wnt s ≤ (trl L sn s.up (k + 1) : Int)
              · have PR := hide2 (rs.1 htg)
                have hW : fall ≤ (c1 : Int) := by have := htg; rw [HCE.out, HW.out] at this; exact this
                have t20 : Calls Try.prog 20 #[.pointer (some ⟨b, 0, none⟩)] w8 fun e w' => e = .returned (.bool false) ∧ w' = w8 := by
                  have e := healthy_any _ _ _ w8 H8.out.pv
                  have e2 : (some (s.probe ok t) : Option St).elim false St.up = false := by show (s.probe ok t).up = false; rw [PR.out.1, HU.out]; rfl
                  rw [e2] at e; exact e
                have t21 : Calls Try.prog 21 #[.pointer (some ⟨b, 0, none⟩)] w8 fun e w' => e = .returned (.int .i64 ((s.turns : Int) + 1)) ∧ w' = w8 := by
                  have e := turns_any _ _ _ w8 H8.out.pv
                  have e2 : ((some (s.probe ok t) : Option St).elim 0 fun s => (s.turns : Int)) = ((s.turns : Int) + 1) := by show ((s.probe ok t).turns : Int) = _; rw [PR.out.2.1]; omega
                  rw [e2] at e; exact e
                have htn : (s.turns : Int) ≤ 400 := by have := HT.out.ok.turns; have := HK.out; omega
                obtain ⟨T, hTn⟩ : ∃ T : Int, (s.turns : Int) = T := ⟨_, rfl⟩
                rw [hTn] at t21 htn
                have hT0 : 0 ≤ T := by omega
                simp only [hTn]
                have t22 : Calls Try.prog 22 #[.pointer (some ⟨b, 0, none⟩)] w8 fun e w' => e = .returned (.int .i64 0) ∧ w' = w8 := by
                  have e := row_any _ _ _ w8 H8.out.pv
                  have e2 : (some (s.probe ok t) : Option St).elim 0 St.row = 0 := PR.out.2.2.1
                  rw [e2] at e; exact e
                clear htg rs hTn
                go_wp2_with (first
                  | (go_at_call 20; refine t20.mono ?_; rintro e w9 ⟨rfl, rfl⟩)
                  | (go_at_call 21; refine t21.mono ?_; rintro e w9 ⟨rfl, rfl⟩)
                  | (go_at_call 22; refine t22.mono ?_; rintro e w9 ⟨rfl, rfl⟩))
                go_roundw
                case rel =>
                  refine ⟨k + 1, (k + 1), by have := HK.out; omega, by have := HK.out; omega, by go_num, by go_num, (⟨_, H8.out, HT.out.ok.probe _ _, Nat.le_refl _, ?_, ?_, HT.out.stp.trans S8.out⟩ : ∃ s, Rh w2 _ L b (k + 1) (k + 1) rise fall s)⟩
                  · rw [PR.out.2.2.2]; have := trl_end L (k + 1) (s.probe ok t).up; omega
                  · have := probe_keeps s ok t; exact ⟨this.1.trans HT.out.rf.1, this.2.trans HT.out.rf.2⟩
                case measure => simp [intOf]; have := HK.out; omega
              · have PR := hide2 (rs.2 htg)
                have hW : ¬ fall ≤ (c1 : Int) := by have := htg; rw [HCE.out, HW.out] at this; exact this
                have t20 : Calls Try.prog 20 #[.pointer (some ⟨b, 0, none⟩)] w8 fun e w' => e = .returned (.bool true) ∧ w' = w8 := by
                  have e := healthy_any _ _ _ w8 H8.out.pv
                  have e2 : (some (s.probe ok t) : Option St).elim false St.up = true := by show (s.probe ok t).up = true; rw [PR.out.1, HU.out]
                  rw [e2] at e; exact e
                have t21 : Calls Try.prog 21 #[.pointer (some ⟨b, 0, none⟩)] w8 fun e w' => e = .returned (.int .i64 (s.turns : Int)) ∧ w' = w8 := by
                  have e := turns_any _ _ _ w8 H8.out.pv
                  have e2 : ((some (s.probe ok t) : Option St).elim 0 fun s => (s.turns : Int)) = (s.turns : Int) := by show ((s.probe ok t).turns : Int) = _; rw [PR.out.2.1]
                  rw [e2] at e; exact e
                have htn : (s.turns : Int) ≤ 400 := by have := HT.out.ok.turns; have := HK.out; omega
                obtain ⟨T, hTn⟩ : ∃ T : Int, (s.turns : Int) = T := ⟨_, rfl⟩
                rw [hTn] at t21 htn
                have hT0 : 0 ≤ T := by omega
                simp only [hTn]
                have hne : (T == T + 1) = false := by simp; omega
                have heq : (T == T) = true := by simp
                clear htg rs hTn
                go_wp2_with (first
                  | (go_at_call 20; refine t20.mono ?_; rintro e w9 ⟨rfl, rfl⟩)
                  | (go_at_call 21; refine t21.mono ?_; rintro e w9 ⟨rfl, rfl⟩))
                go_roundw
                case rel =>
                  refine ⟨k + 1, sn, by have := HK.out; omega, by have := HK.out; omega, rfl, by go_num, (⟨_, H8.out, HT.out.ok.probe _ _, Nat.le_succ_of_le HT.out.sle, ?_, ?_, HT.out.stp.trans S8.out⟩ : ∃ s, Rh w2 _ L b (k + 1) sn rise fall s)⟩
                  · rw [PR.out.1]; exact PR.out.2.2
                  · have := probe_keeps s ok t; exact ⟨this.1.trans HT.out.rf.1, this.2.trans HT.out.rf.2⟩
                case measure => simp [intOf]; have := HK.out; omega
        | false =>
          have HU := hide2 hu
          have HW : Hid (wnt s = rise) := by unfold Hid wnt; rw [hu]; exact HT.out.rf.1
          clear hu f1 f2
          go_wp2_with fail
          go_loopw [14, 15] (fun t14 t15 wx => ∃ (c1 : Nat) (x : Int), t14 = .int .i64 c1 ∧ t15 = .int .i64 x ∧ x + c1 = k ∧ c1 ≤ k + 1 ∧ Hid (trl L sn false (k + 1) = c1 + trl L sn false (k + 1 - c1)) ∧ w8 = wx) (fun t14 _ _ => k + 1 - (intOf t14).toNat)
          case atStart => exact ⟨0, k, rfl, rfl, by omega, by omega, (by unfold Hid; simp), rfl⟩
          case round =>
            obtain ⟨c1, x, rfl, rfl, hx, hc1, HCT, rfl⟩ := hrel
            have HXC := hide2 (And.intro hx hc1)
            by_cases hge : (sn : Int) ≤ x
            · obtain ⟨j, hj⟩ : ∃ j : Nat, x = (j : Int) := ⟨x.toNat, by omega⟩
              subst hj
              obtain ⟨f1, f2⟩ := HCell.out w8 S8.out j (by have := HK.out; omega)
              obtain ⟨oj, hoj⟩ : ∃ oj, (L.getD j (false, 0)).1 = oj := ⟨_, rfl⟩
              have HOJ := hide2 hoj
              rw [hoj] at f1
              have j1 : (j : Int) < n := by omega
              have j0 : (0 : Int) ≤ j := by omega
              have HGE := hide2 hge
              have hjk : k + 1 - c1 = j + 1 := by omega
              have HJK := hide2 hjk
              have hc9 : (c1 : Int) ≤ 500 := by omega
              clear hx hc1 f2 hoj hjk
              cases oj
              · have hend : trl L sn false (k + 1) = c1 := by
                  have h1 := HCT.out
                  rw [HJK.out] at h1
                  have h2 : trl L sn false (j + 1) = 0 := by
                    show (if sn ≤ j ∧ (L.getD j (false, 0)).1 ≠ false then trl L sn false j + 1 else 0) = _
                    rw [if_neg (fun h => h.2 HOJ.out)]
                  rw [h2] at h1; omega
                have HCE : Hid ((trl L sn s.up (k + 1) : Int) = c1) := by unfold Hid; rw [HU.out, hend]
                have rs := rises_step HT.out.ok HT.out.sle HT.out.tr HPP.out
                clear hend
                by_cases htg : wnt s ≤ (trl L sn s.up (k + 1) : Int)
                · have PR := hide2 (rs.1 htg)
                  have hW : rise ≤ (c1 : Int) := by have := htg; rw [HCE.out, HW.out] at this; exact this
                  have t20 : Calls Try.prog 20 #[.pointer (some ⟨b, 0, none⟩)] w8 fun e w' => e = .returned (.bool true) ∧ w' = w8 := by
                    have e := healthy_any _ _ _ w8 H8.out.pv
                    have e2 : (some (s.probe ok t) : Option St).elim false St.up = true := by show (s.probe ok t).up = true; rw [PR.out.1, HU.out]; rfl
                    rw [e2] at e; exact e
                  have t21 : Calls Try.prog 21 #[.pointer (some ⟨b, 0, none⟩)] w8 fun e w' => e = .returned (.int .i64 ((s.turns : Int) + 1)) ∧ w' = w8 := by
                    have e := turns_any _ _ _ w8 H8.out.pv
                    have e2 : ((some (s.probe ok t) : Option St).elim 0 fun s => (s.turns : Int)) = ((s.turns : Int) + 1) := by show ((s.probe ok t).turns : Int) = _; rw [PR.out.2.1]; omega
                    rw [e2] at e; exact e
                  have htn : (s.turns : Int) ≤ 400 := by have := HT.out.ok.turns; have := HK.out; omega
                  obtain ⟨T, hTn⟩ : ∃ T : Int, (s.turns : Int) = T := ⟨_, rfl⟩
                  rw [hTn] at t21 htn
                  have hT0 : 0 ≤ T := by omega
                  simp only [hTn]
                  have t22 : Calls Try.prog 22 #[.pointer (some ⟨b, 0, none⟩)] w8 fun e w' => e = .returned (.int .i64 0) ∧ w' = w8 := by
                    have e := row_any _ _ _ w8 H8.out.pv
                    have e2 : (some (s.probe ok t) : Option St).elim 0 St.row = 0 := PR.out.2.2.1
                    rw [e2] at e; exact e
                  clear htg rs hTn
                  go_wp2_with (first
                    | (go_at_call 20; refine t20.mono ?_; rintro e w9 ⟨rfl, rfl⟩)
                    | (go_at_call 21; refine t21.mono ?_; rintro e w9 ⟨rfl, rfl⟩)
                    | (go_at_call 22; refine t22.mono ?_; rintro e w9 ⟨rfl, rfl⟩))
                  go_roundw
                  case rel =>
                    refine ⟨k + 1, (k + 1), by have := HK.out; omega, by have := HK.out; omega, by go_num, by go_num, (⟨_, H8.out, HT.out.ok.probe _ _, Nat.le_refl _, ?_, ?_, HT.out.stp.trans S8.out⟩ : ∃ s, Rh w2 _ L b (k + 1) (k + 1) rise fall s)⟩
                    · rw [PR.out.2.2.2]; have := trl_end L (k + 1) (s.probe ok t).up; omega
                    · have := probe_keeps s ok t; exact ⟨this.1.trans HT.out.rf.1, this.2.trans HT.out.rf.2⟩
                  case measure => simp [intOf]; have := HK.out; omega
                · have PR := hide2 (rs.2 htg)
                  have hW : ¬ rise ≤ (c1 : Int) := by have := htg; rw [HCE.out, HW.out] at this; exact this
                  have t20 : Calls Try.prog 20 #[.pointer (some ⟨b, 0, none⟩)] w8 fun e w' => e = .returned (.bool false) ∧ w' = w8 := by
                    have e := healthy_any _ _ _ w8 H8.out.pv
                    have e2 : (some (s.probe ok t) : Option St).elim false St.up = false := by show (s.probe ok t).up = false; rw [PR.out.1, HU.out]
                    rw [e2] at e; exact e
                  have t21 : Calls Try.prog 21 #[.pointer (some ⟨b, 0, none⟩)] w8 fun e w' => e = .returned (.int .i64 (s.turns : Int)) ∧ w' = w8 := by
                    have e := turns_any _ _ _ w8 H8.out.pv
                    have e2 : ((some (s.probe ok t) : Option St).elim 0 fun s => (s.turns : Int)) = (s.turns : Int) := by show ((s.probe ok t).turns : Int) = _; rw [PR.out.2.1]
                    rw [e2] at e; exact e
                  have htn : (s.turns : Int) ≤ 400 := by have := HT.out.ok.turns; have := HK.out; omega
                  obtain ⟨T, hTn⟩ : ∃ T : Int, (s.turns : Int) = T := ⟨_, rfl⟩
                  rw [hTn] at t21 htn
                  have hT0 : 0 ≤ T := by omega
                  simp only [hTn]
                  have hne : (T == T + 1) = false := by simp; omega
                  have heq : (T == T) = true := by simp
                  clear htg rs hTn
                  go_wp2_with (first
                    | (go_at_call 20; refine t20.mono ?_; rintro e w9 ⟨rfl, rfl⟩)
                    | (go_at_call 21; refine t21.mono ?_; rintro e w9 ⟨rfl, rfl⟩))
                  go_roundw
                  case rel =>
                    refine ⟨k + 1, sn, by have := HK.out; omega, by have := HK.out; omega, rfl, by go_num, (⟨_, H8.out, HT.out.ok.probe _ _, Nat.le_succ_of_le HT.out.sle, ?_, ?_, HT.out.stp.trans S8.out⟩ : ∃ s, Rh w2 _ L b (k + 1) sn rise fall s)⟩
                    · rw [PR.out.1]; exact PR.out.2.2
                    · have := probe_keeps s ok t; exact ⟨this.1.trans HT.out.rf.1, this.2.trans HT.out.rf.2⟩
                  case measure => simp [intOf]; have := HK.out; omega
              · go_wp2_with fail
                go_roundw
                case rel =>
                  refine ⟨c1 + 1, (j : Int) - 1, by go_num, by go_num, by have := HXC.out; omega, by have := HXC.out; omega, ?_, trivial⟩
                  have h1 := HCT.out
                  rw [HJK.out] at h1
                  have h2 : trl L sn false (j + 1) = trl L sn false j + 1 := by
                    show (if sn ≤ j ∧ (L.getD j (false, 0)).1 ≠ false then trl L sn false j + 1 else 0) = _
                    rw [if_pos ⟨by have := HGE.out; omega, by rw [HOJ.out]; decide⟩]
                  unfold Hid
                  rw [h1, h2, show k + 1 - (c1 + 1) = j by have := HJK.out; omega]; omega
                case measure => simp [intOf]; have := HXC.out; omega

            · have hend : trl L sn false (k + 1) = c1 := by
                have h1 := HCT.out
                rcases Nat.eq_zero_or_pos (k + 1 - c1) with h0 | h0
                · rw [h0] at h1; exact h1
                · obtain ⟨j, hj⟩ : ∃ j, k + 1 - c1 = j + 1 := ⟨k - c1, by omega⟩
                  rw [hj] at h1
                  have h2 : trl L sn false (j + 1) = 0 := by
                    show (if sn ≤ j ∧ (L.getD j (false, 0)).1 ≠ false then trl L sn false j + 1 else 0) = _
                    rw [if_neg (fun h => by have := h.1; omega)]
                  rw [h2] at h1; omega
              clear hx hc1
              have HCE : Hid ((trl L sn s.up (k + 1) : Int) = c1) := by unfold Hid; rw [HU.out, hend]
              have rs := rises_step HT.out.ok HT.out.sle HT.out.tr HPP.out
              clear hend
              by_cases htg : wnt s ≤ (trl L sn s.up (k + 1) : Int)
              · have PR := hide2 (rs.1 htg)
                have hW : rise ≤ (c1 : Int) := by have := htg; rw [HCE.out, HW.out] at this; exact this
                have t20 : Calls Try.prog 20 #[.pointer (some ⟨b, 0, none⟩)] w8 fun e w' => e = .returned (.bool true) ∧ w' = w8 := by
                  have e := healthy_any _ _ _ w8 H8.out.pv
                  have e2 : (some (s.probe ok t) : Option St).elim false St.up = true := by show (s.probe ok t).up = true; rw [PR.out.1, HU.out]; rfl
                  rw [e2] at e; exact e
                have t21 : Calls Try.prog 21 #[.pointer (some ⟨b, 0, none⟩)] w8 fun e w' => e = .returned (.int .i64 ((s.turns : Int) + 1)) ∧ w' = w8 := by
                  have e := turns_any _ _ _ w8 H8.out.pv
                  have e2 : ((some (s.probe ok t) : Option St).elim 0 fun s => (s.turns : Int)) = ((s.turns : Int) + 1) := by show ((s.probe ok t).turns : Int) = _; rw [PR.out.2.1]; omega
                  rw [e2] at e; exact e
                have htn : (s.turns : Int) ≤ 400 := by have := HT.out.ok.turns; have := HK.out; omega
                obtain ⟨T, hTn⟩ : ∃ T : Int, (s.turns : Int) = T := ⟨_, rfl⟩
                rw [hTn] at t21 htn
                have hT0 : 0 ≤ T := by omega
                simp only [hTn]
                have t22 : Calls Try.prog 22 #[.pointer (some ⟨b, 0, none⟩)] w8 fun e w' => e = .returned (.int .i64 0) ∧ w' = w8 := by
                  have e := row_any _ _ _ w8 H8.out.pv
                  have e2 : (some (s.probe ok t) : Option St).elim 0 St.row = 0 := PR.out.2.2.1
                  rw [e2] at e; exact e
                clear htg rs hTn
                go_wp2_with (first
                  | (go_at_call 20; refine t20.mono ?_; rintro e w9 ⟨rfl, rfl⟩)
                  | (go_at_call 21; refine t21.mono ?_; rintro e w9 ⟨rfl, rfl⟩)
                  | (go_at_call 22; refine t22.mono ?_; rintro e w9 ⟨rfl, rfl⟩))
                go_roundw
                case rel =>
                  refine ⟨k + 1, (k + 1), by have := HK.out; omega, by have := HK.out; omega, by go_num, by go_num, (⟨_, H8.out, HT.out.ok.probe _ _, Nat.le_refl _, ?_, ?_, HT.out.stp.trans S8.out⟩ : ∃ s, Rh w2 _ L b (k + 1) (k + 1) rise fall s)⟩
                  · rw [PR.out.2.2.2]; have := trl_end L (k + 1) (s.probe ok t).up; omega
                  · have := probe_keeps s ok t; exact ⟨this.1.trans HT.out.rf.1, this.2.trans HT.out.rf.2⟩
                case measure => simp [intOf]; have := HK.out; omega
              · have PR := hide2 (rs.2 htg)
                have hW : ¬ rise ≤ (c1 : Int) := by have := htg; rw [HCE.out, HW.out] at this; exact this
                have t20 : Calls Try.prog 20 #[.pointer (some ⟨b, 0, none⟩)] w8 fun e w' => e = .returned (.bool false) ∧ w' = w8 := by
                  have e := healthy_any _ _ _ w8 H8.out.pv
                  have e2 : (some (s.probe ok t) : Option St).elim false St.up = false := by show (s.probe ok t).up = false; rw [PR.out.1, HU.out]
                  rw [e2] at e; exact e
                have t21 : Calls Try.prog 21 #[.pointer (some ⟨b, 0, none⟩)] w8 fun e w' => e = .returned (.int .i64 (s.turns : Int)) ∧ w' = w8 := by
                  have e := turns_any _ _ _ w8 H8.out.pv
                  have e2 : ((some (s.probe ok t) : Option St).elim 0 fun s => (s.turns : Int)) = (s.turns : Int) := by show ((s.probe ok t).turns : Int) = _; rw [PR.out.2.1]
                  rw [e2] at e; exact e
                have htn : (s.turns : Int) ≤ 400 := by have := HT.out.ok.turns; have := HK.out; omega
                obtain ⟨T, hTn⟩ : ∃ T : Int, (s.turns : Int) = T := ⟨_, rfl⟩
                rw [hTn] at t21 htn
                have hT0 : 0 ≤ T := by omega
                simp only [hTn]
                have hne : (T == T + 1) = false := by simp; omega
                have heq : (T == T) = true := by simp
                clear htg rs hTn
                go_wp2_with (first
                  | (go_at_call 20; refine t20.mono ?_; rintro e w9 ⟨rfl, rfl⟩)
                  | (go_at_call 21; refine t21.mono ?_; rintro e w9 ⟨rfl, rfl⟩))
                go_roundw
                case rel =>
                  refine ⟨k + 1, sn, by have := HK.out; omega, by have := HK.out; omega, rfl, by go_num, (⟨_, H8.out, HT.out.ok.probe _ _, Nat.le_succ_of_le HT.out.sle, ?_, ?_, HT.out.stp.trans S8.out⟩ : ∃ s, Rh w2 _ L b (k + 1) sn rise fall s)⟩
                  · rw [PR.out.1]; exact PR.out.2.2
                  · have := probe_keeps s ok t; exact ⟨this.1.trans HT.out.rf.1, this.2.trans HT.out.rf.2⟩
                case measure => simp [intOf]; have := HK.out; omega
      · have hge : ¬ ((k : Int) < n) ∨ (k : Int) < n ∧ ¬ (k : Int) < 400 := by omega
        clear hR hBr hlt hk hk4
        rcases hge with hge | ⟨hge, hge2⟩
        · go_wp2_with fail
          go_ret
          exact ⟨rfl, HBR.out⟩
        · go_wp2_with fail
          go_ret
          exact ⟨rfl, HBR.out⟩
  · have hne := fun wx => new_no rise fall wx hr hf hT
    go_enter Try.func5, Try.ntmps5
    go_wp2_with fail
    refine ha.mono ?_
    rintro e w1 ⟨rfl, hb1⟩
    have HB1 := hide2 hb1
    have hne1 := hne w1
    clear ha hb1 hr hf hT hne
    go_wp2_with fail
    refine hne1.mono ?_
    rintro e w2 ⟨rfl, rfl⟩
    clear hne1
    go_wp2_with fail
    go_ret
    exact ⟨rfl, HB1.out⟩
end Go.Proofs.Ytlgpohjffahbcaa
