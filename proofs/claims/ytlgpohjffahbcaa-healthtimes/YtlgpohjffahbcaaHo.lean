/- HealthTimes' walk. -/
import Derived.Test.YtlgpohjffahbcaaHn
namespace Go.Proofs.Ytlgpohjffahbcaa
open Go.RowKit Ieee
set_option linter.unusedVariables false
set_option linter.unusedSimpArgs false
theorem Pin.below {w w' : World} {a : Option Addr} {c : Nat} {L : List (Bool × Nat)} (h : Pin w a c L) (g : Below w.heap.size w w') : Pin w' a c L := ⟨h.cel.below g, h.ok, h.len⟩
/-- what the times that counted come to: the least and the greatest so far -/
structure Tm (s : St) (lo hi n : Nat) : Prop where
  num : s.timed = n
  zero : n = 0 → s.took = 0
  pos : 0 < n → lo ≤ s.took ∧ s.took ≤ hi
  lo : lo < INF
  hi : hi < INF
theorem tm_idle {s : St} {lo hi n : Nat} (h : Tm s lo hi n) {ok : Bool} {t : Nat} (hc : ¬ (ok = true ∧ mb t)) : Tm (s.probe ok t) lo hi n ∧ (s.probe ok t).took = s.took := by
  have p := probe_parts s ok t
  have e : s.tm2 ok t = (s.took, s.timed) := by unfold St.tm2; rw [if_neg hc]
  rw [e] at p
  have a1 : (s.probe ok t).took = s.took := p.2.2.2.1
  have a2 : (s.probe ok t).timed = s.timed := p.2.2.2.2
  exact ⟨⟨a2.trans h.num, fun h0 => a1.trans (h.zero h0), fun h0 => by rw [a1]; exact h.pos h0, h.lo, h.hi⟩, a1⟩
theorem tm_count {s : St} {lo hi n : Nat} (h : Tm s lo hi n) (hs : s.took < INF) {t : Nat} (hm : mb t) : Tm (s.probe true t) (if n = 0 ∨ rg t < lo then rg t else lo) (if n = 0 ∨ hi < rg t then rg t else hi) (n + 1) := by
  have p := probe_parts s true t
  have e : s.tm2 true t = ((s.tmd t).took, (s.tmd t).timed) := by unfold St.tm2; rw [if_pos ⟨rfl, hm⟩]
  rw [e] at p
  have a1 : (s.probe true t).took = (s.tmd t).took := p.2.2.2.1
  have a2 : (s.probe true t).timed = s.timed + 1 := p.2.2.2.2
  refine ⟨by rw [a2, h.num], fun h0 => by omega, fun _ => ?_, by have := hm.1; have := h.lo; split <;> omega, by have := hm.1; have := h.hi; split <;> omega⟩
  rw [a1]
  unfold St.tmd
  dsimp only
  rw [h.num]
  by_cases h0 : n = 0
  · rw [if_pos h0, if_pos (.inl h0), if_pos (.inl h0)]; exact ⟨Nat.le_refl _, Nat.le_refl _⟩
  · rw [if_neg h0]
    obtain ⟨_, _, _, _, _, _, m1, m2⟩ := sm_spec hs hm.1
    obtain ⟨b1, b2⟩ := h.pos (by omega)
    rcases Nat.le_total s.took (rg t) with hle | hle
    · obtain ⟨c1, c2⟩ := m1 hle
      constructor
      · split <;> omega
      · split <;> omega
    · obtain ⟨c1, c2⟩ := m2 hle
      constructor
      · split <;> omega
      · split <;> omega
theorem order_mb {x y : Nat} (hx : mb x) (hy : mb y) : double.order x y = some (compare (rg x : Int) (rg y : Int)) := by
  rw [order_fin x y hx.1 hy.1, sv_mb hx, sv_mb hy]
  congr 1
  rcases Nat.lt_trichotomy (rg x) (rg y) with h | h | h
  · rw [Int.compare_eq_lt.2 (by have := (V_lt hx.1 hy.1).2 h; omega), Int.compare_eq_lt.2 (by omega)]
  · rw [h, Int.compare_eq_eq.2 rfl, Int.compare_eq_eq.2 rfl]
  · rw [Int.compare_eq_gt.2 (by have := (V_lt hy.1 hx.1).2 h; omega), Int.compare_eq_gt.2 (by omega)]
theorem lt_mb {x y : Nat} (hx : mb x) (hy : mb y) : (FloatKind.f64.format.order x y == some .lt) = decide (rg x < rg y) := by
  show (double.order x y == some .lt) = _
  rw [order_mb hx hy]
  change (compare (rg x : Int) (rg y) == .lt) = _
  rw [cmp_lt, Bool.eq_iff_iff]; simp
theorem gt_mb {x y : Nat} (hx : mb x) (hy : mb y) : (FloatKind.f64.format.order x y == some .gt) = decide (rg y < rg x) := by
  show (double.order x y == some .gt) = _
  rw [order_mb hx hy]
  change (compare (rg x : Int) (rg y) == .gt) = _
  rw [cmp_gt, Bool.eq_iff_iff]; simp
theorem eq_mb {x y : Nat} (hx : mb x) (hy : mb y) : (FloatKind.f64.format.order x y == some .eq) = decide (rg x = rg y) := by
  show (double.order x y == some .eq) = _
  rw [order_mb hx hy]
  change (compare (rg x : Int) (rg y) == .eq) = _
  rw [cmp_eq, Bool.eq_iff_iff]; simp only [decide_eq_true_iff]; omega
theorem mb_pos {x : Nat} (h : x < INF) : mb x := by
  have := rg_lt (Nat.le_of_lt h)
  exact ⟨by rw [this.1]; exact h, .inl this.2⟩
theorem rg_pos {x : Nat} (h : x < INF) : rg x = x := (rg_lt (Nat.le_of_lt h)).1
/-- what holds at the head of a round -/
structure Th (w2 wr : World) (b k lw hw m : Nat) (s : St) : Prop where
  hs : Hs wr b s
  ok : Ok s k
  tm : Tm s (rg lw) (rg hw) m
  m : m ≤ k
  lw : mb lw
  hw : mb hw
  stp : Stp w2 wr [b] [b]
set_option maxRecDepth 100000 in
set_option maxHeartbeats 4000000 in
theorem times_any (a : Option Addr) (c : Nat) (L : List (Bool × Nat)) (w : World) (hp : Pin w a c L) : Calls Try.prog 6 #[.slice a L.length c] w fun e w' => e = .returned (.bool true) ∧ Below w.heap.size w w' := by
  have HP := hide2 hp
  have hlen := hp.len
  have ha := awake_any w
  obtain ⟨n, hn⟩ : ∃ n, L.length = n := ⟨_, rfl⟩
  have HN := hide2 hn
  rw [hn] at hlen ⊢
  clear hp hn
  go_enter Try.func6, Try.ntmps6
  go_wp2_with fail
  refine ha.mono ?_
  rintro e w1 ⟨rfl, hb1⟩
  have HB1 := hide2 hb1
  have hne := new_ok 1 1 w1 (by decide)
  clear ha hb1
  go_wp2_with fail
  refine hne.mono ?_
  rintro e w2 ⟨rfl, h2, hb2⟩
  have H2 := hide2 h2
  have HB2 := hide2 (HB1.out.trans (hb2.mono HB1.out.size))
  obtain ⟨b, hb⟩ : ∃ b, w1.heap.size = b := ⟨_, rfl⟩
  have hbw : w.heap.size ≤ b := by rw [← hb]; exact HB1.out.size
  have HBW := hide2 hbw
  rw [hb] at h2 ⊢
  have HS := hide2 h2
  clear hne h2 hb2 hb hbw
  go_wp2_with fail
  go_loopw [5, 6, 7, 8] (fun t5 t6 t7 t8 wr => ∃ k lw hw m : Nat, k ≤ n ∧ k ≤ 400 ∧ t5 = .float .f64 lw ∧ t6 = .float .f64 hw ∧ t7 = .int .i64 m ∧ t8 = .int .i64 k ∧ Hid (∃ s, Th w2 wr b k lw hw m s)) (fun _ _ _ t8 _ => n - (intOf t8).toNat)
  case atStart => exact ⟨0, 0, 0, 0, by omega, by omega, rfl, rfl, rfl, rfl, (⟨_, HS.out, Ok.new (by decide), ⟨rfl, fun _ => rfl, fun h => by omega, by decide, by decide⟩, Nat.le_refl _, by decide, by decide, Stp.refl _ _⟩ : ∃ s, Th w2 w2 b 0 0 0 0 s)⟩
  case round =>
    obtain ⟨k, lw, hw, m, hk, hk4, rfl, rfl, rfl, rfl, HV⟩ := hrel
    obtain ⟨s, hT⟩ := HV.out
    have HT := hide2 hT
    have k0 : (0 : Int) ≤ k := by omega
    have hBr : Below w.heap.size w wr := HB2.out.trans (hT.stp.below (fun x hx => by have := HBW.out; simp at hx; omega) HB2.out.size)
    have HBR := hide2 hBr
    by_cases hlt : k < n ∧ k < 400
    · obtain ⟨h1, h2⟩ := hlt
      obtain ⟨g, off, rfl, q1, q2, hq⟩ := (HP.out.below hBr).at_ (k := k) (by have := HN.out; omega)
      obtain ⟨⟨ok, t⟩, hp⟩ : ∃ p, L.getD k (false, 0) = p := ⟨_, rfl⟩
      rw [hp] at q1 q2 hq
      obtain ⟨P, hP⟩ : ∃ P, wr.heap.size = P := ⟨_, rfl⟩
      obtain ⟨wp, hwp⟩ : ∃ wp, wr.alloc (.cells #[.bool ok, .float .f64 t] 34 (0, 0)) = wp := ⟨_, rfl⟩
      have hbp : Below wr.heap.size wr wp := hwp ▸ (Below.refl _ wr).alloc (Nat.le_refl _) _
      have hpb : wp.heap[P]? = some (.cells #[.bool ok, .float .f64 t] 34 (0, 0)) := by rw [← hwp, ← hP]; exact Go.heap_alloc_new _ _
      have hHp : Hs wp b s := hT.hs.below hbp (lt_of_block hT.hs)
      have hPb : P ≠ b := by have := lt_of_block hT.hs; omega
      have hStp : Stp w2 wp [b] [b] := hT.stp.trans (Stp.of_below _ hbp)
      have c1 := took_any _ _ _ wp hHp.pv
      have c2 := probe_any b s k ok t wp hHp hT.ok (by omega) hq
      have m0 : wp.cell? ⟨P, 0, none⟩ = some (.bool ok) := by simp [World.cell?, hpb]
      have m1 : wp.cell? ⟨P, 1, none⟩ = some (.float .f64 t) := by simp [World.cell?, hpb]
      have HPB := hide2 (And.intro hpb (And.intro hPb (And.intro hStp hq)))
      have HK := hide2 (And.intro h1 h2)
      have k1 : (k : Int) < n := by omega
      have k2 : (k : Int) < 400 := by omega
      have hm4 : (m : Int) ≤ 400 := by have := hT.m; omega
      have stf := st_float
      have htk := hT.ok.took
      have HTK := hide2 htk
      clear hT hBr hbp hpb hHp hPb hStp hp h1 h2 hk hk4 hq htk
      go_upto_region 15 with (first
        | (go_at_call 23; refine c1.mono ?_; rintro e w7 ⟨rfl, rfl⟩)
        | (go_at_call 11; refine c2.mono ?_; rintro e w8 ⟨rfl, h8, s8⟩; have H8 := hide2 h8; have S8 := hide2 s8; clear c2 h8 s8))
      have hb8 : w8.heap[P]? = some (.cells #[.bool ok, .float .f64 t] 34 (0, 0)) := (S8.out.old P (lt_of_block HPB.out.1) (by simpa using HPB.out.2.1)).trans HPB.out.1
      have x0 : w8.cell? ⟨P, 0, none⟩ = some (.bool ok) := by simp [World.cell?, hb8]
      have x1 : w8.cell? ⟨P, 1, none⟩ = some (.float .f64 t) := by simp [World.cell?, hb8]
      clear hb8 m0 m1 c1 q1 q2
      by_cases hc : ok = true ∧ mb t
      · obtain ⟨rfl, hm⟩ := hc
        have HM := hide2 hm
        have hge : (FloatKind.f64.format.order t 0 == some .gt || FloatKind.f64.format.order t 0 == some .eq) = true := by
          show (double.order t 0 == some .gt || double.order t 0 == some .eq) = true
          rw [ge_zero]; exact decide_eq_true (Or.inl hm)
        have rS : ∀ wx : World, (binOp .sub 32 (.float .f64 t) (.float .f64 t)).run Try.prog wx = .ok (.float .f64 0) wx := fun wx => run_float_arith wx .sub 32 .f64 _ _ _ (sub_self t hm.1)
        have hq0 : (FloatKind.f64.format.order 0 0 == some .eq) = true := by decide +kernel
        clear hm
        by_cases hm0 : m = 0
        · have HC := hide2 hm0
          clear hm0
          have HTI : Hid (Tm (s.probe true t) (rg t) (rg t) (m + 1)) := by
            have := tm_count HT.out.tm HTK.out HM.out
            rw [if_pos (.inl HC.out), if_pos (.inl HC.out)] at this; exact this
          have bd := HTI.out.pos (by omega)
          have tk8 : (s.probe true t).took < INF := (HT.out.ok.probe true t).took
          obtain ⟨S8t, hS8t⟩ : ∃ x, (s.probe true t).took = x := ⟨_, rfl⟩
          rw [hS8t] at bd tk8
          have t23 : Calls Try.prog 23 #[.pointer (some ⟨b, 0, none⟩)] w8 fun e w' => e = .returned (.float .f64 S8t) ∧ w' = w8 := by rw [← hS8t]; exact took_any _ _ _ w8 H8.out.pv
          have t24 : Calls Try.prog 24 #[.pointer (some ⟨b, 0, none⟩)] w8 fun e w' => e = .returned (.int .i64 ((m : Int) + 1)) ∧ w' = w8 := by
            have e : (((s.probe true t).timed : Nat) : Int) = (m : Int) + 1 := by have := HTI.out.num; omega
            rw [← e]; exact timed_any _ _ _ w8 H8.out.pv
          have mlo : mb t := HM.out
          have mhi : mb t := HM.out
          have gge : (FloatKind.f64.format.order S8t t == some .gt || FloatKind.f64.format.order S8t t == some .eq) = true := by
            rw [gt_mb (mb_pos tk8) mlo, eq_mb (mb_pos tk8) mlo, rg_pos tk8]; simp; omega
          have gle : (FloatKind.f64.format.order S8t t == some .lt || FloatKind.f64.format.order S8t t == some .eq) = true := by
            rw [lt_mb (mb_pos tk8) mhi, eq_mb (mb_pos tk8) mhi, rg_pos tk8]; simp; omega
          have HML := hide2 (And.intro mlo mhi)
          clear bd tk8 hS8t mlo mhi
          have gm : ((m : Int) == 0) = true := by have := HC.out; simp; omega
          go_wp2_with (first
            | (go_at_call 23; refine t23.mono ?_; rintro e w9 ⟨rfl, rfl⟩)
            | (go_at_call 24; refine t24.mono ?_; rintro e w9 ⟨rfl, rfl⟩))
          go_roundw
          case rel => exact ⟨k + 1, t, t, m + 1, by have := HK.out; omega, by have := HK.out; omega, rfl, rfl, by go_num, by go_num, (⟨_, H8.out, HT.out.ok.probe _ _, HTI.out, by have := HT.out.m; omega, HML.out.1, HML.out.2, HPB.out.2.2.1.trans S8.out⟩ : ∃ s, Th w2 _ b (k + 1) t t (m + 1) s)⟩
          case measure => simp [intOf]; have := HK.out; omega
        · by_cases hl : rg t < rg lw
          · have hh : ¬ (m = 0 ∨ rg hw < rg t) := by have := HT.out.tm.pos (by omega); omega
            have HC := hide2 (And.intro hm0 (And.intro hl hh))
            clear hm0 hl hh
            have HTI : Hid (Tm (s.probe true t) (rg t) (rg hw) (m + 1)) := by
              have := tm_count HT.out.tm HTK.out HM.out
              rw [if_pos (.inr HC.out.2.1), if_neg HC.out.2.2] at this; exact this
            have bd := HTI.out.pos (by omega)
            have tk8 : (s.probe true t).took < INF := (HT.out.ok.probe true t).took
            obtain ⟨S8t, hS8t⟩ : ∃ x, (s.probe true t).took = x := ⟨_, rfl⟩
            rw [hS8t] at bd tk8
            have t23 : Calls Try.prog 23 #[.pointer (some ⟨b, 0, none⟩)] w8 fun e w' => e = .returned (.float .f64 S8t) ∧ w' = w8 := by rw [← hS8t]; exact took_any _ _ _ w8 H8.out.pv
            have t24 : Calls Try.prog 24 #[.pointer (some ⟨b, 0, none⟩)] w8 fun e w' => e = .returned (.int .i64 ((m : Int) + 1)) ∧ w' = w8 := by
              have e : (((s.probe true t).timed : Nat) : Int) = (m : Int) + 1 := by have := HTI.out.num; omega
              rw [← e]; exact timed_any _ _ _ w8 H8.out.pv
            have mlo : mb t := HM.out
            have mhi : mb hw := HT.out.hw
            have gge : (FloatKind.f64.format.order S8t t == some .gt || FloatKind.f64.format.order S8t t == some .eq) = true := by
              rw [gt_mb (mb_pos tk8) mlo, eq_mb (mb_pos tk8) mlo, rg_pos tk8]; simp; omega
            have gle : (FloatKind.f64.format.order S8t hw == some .lt || FloatKind.f64.format.order S8t hw == some .eq) = true := by
              rw [lt_mb (mb_pos tk8) mhi, eq_mb (mb_pos tk8) mhi, rg_pos tk8]; simp; omega
            have HML := hide2 (And.intro mlo mhi)
            clear bd tk8 hS8t mlo mhi
            have gm : ((m : Int) == 0) = false := by have := HC.out.1; simp; omega
            have gl : (FloatKind.f64.format.order t lw == some .lt) = true := by rw [lt_mb HM.out HT.out.lw]; have := HC.out.2.1; simp; omega
            have gh : (FloatKind.f64.format.order t hw == some .gt) = false := by rw [gt_mb HM.out HT.out.hw]; have := HC.out.2.2; simp; omega
            go_wp2_with (first
              | (go_at_call 23; refine t23.mono ?_; rintro e w9 ⟨rfl, rfl⟩)
              | (go_at_call 24; refine t24.mono ?_; rintro e w9 ⟨rfl, rfl⟩))
            go_roundw
            case rel => exact ⟨k + 1, t, hw, m + 1, by have := HK.out; omega, by have := HK.out; omega, rfl, rfl, by go_num, by go_num, (⟨_, H8.out, HT.out.ok.probe _ _, HTI.out, by have := HT.out.m; omega, HML.out.1, HML.out.2, HPB.out.2.2.1.trans S8.out⟩ : ∃ s, Th w2 _ b (k + 1) t hw (m + 1) s)⟩
            case measure => simp [intOf]; have := HK.out; omega
          · by_cases hh : rg hw < rg t
            · have HC := hide2 (And.intro hm0 (And.intro (show ¬ (m = 0 ∨ rg t < rg lw) by omega) hh))
              clear hm0 hl hh
              have HTI : Hid (Tm (s.probe true t) (rg lw) (rg t) (m + 1)) := by
                have := tm_count HT.out.tm HTK.out HM.out
                rw [if_neg HC.out.2.1, if_pos (.inr HC.out.2.2)] at this; exact this
              have bd := HTI.out.pos (by omega)
              have tk8 : (s.probe true t).took < INF := (HT.out.ok.probe true t).took
              obtain ⟨S8t, hS8t⟩ : ∃ x, (s.probe true t).took = x := ⟨_, rfl⟩
              rw [hS8t] at bd tk8
              have t23 : Calls Try.prog 23 #[.pointer (some ⟨b, 0, none⟩)] w8 fun e w' => e = .returned (.float .f64 S8t) ∧ w' = w8 := by rw [← hS8t]; exact took_any _ _ _ w8 H8.out.pv
              have t24 : Calls Try.prog 24 #[.pointer (some ⟨b, 0, none⟩)] w8 fun e w' => e = .returned (.int .i64 ((m : Int) + 1)) ∧ w' = w8 := by
                have e : (((s.probe true t).timed : Nat) : Int) = (m : Int) + 1 := by have := HTI.out.num; omega
                rw [← e]; exact timed_any _ _ _ w8 H8.out.pv
              have mlo : mb lw := HT.out.lw
              have mhi : mb t := HM.out
              have gge : (FloatKind.f64.format.order S8t lw == some .gt || FloatKind.f64.format.order S8t lw == some .eq) = true := by
                rw [gt_mb (mb_pos tk8) mlo, eq_mb (mb_pos tk8) mlo, rg_pos tk8]; simp; omega
              have gle : (FloatKind.f64.format.order S8t t == some .lt || FloatKind.f64.format.order S8t t == some .eq) = true := by
                rw [lt_mb (mb_pos tk8) mhi, eq_mb (mb_pos tk8) mhi, rg_pos tk8]; simp; omega
              have HML := hide2 (And.intro mlo mhi)
              clear bd tk8 hS8t mlo mhi
              have gm : ((m : Int) == 0) = false := by have := HC.out.1; simp; omega
              have gl : (FloatKind.f64.format.order t lw == some .lt) = false := by rw [lt_mb HM.out HT.out.lw]; have := HC.out.2.1; simp; omega
              have gh : (FloatKind.f64.format.order t hw == some .gt) = true := by rw [gt_mb HM.out HT.out.hw]; have := HC.out.2.2; simp; omega
              go_wp2_with (first
                | (go_at_call 23; refine t23.mono ?_; rintro e w9 ⟨rfl, rfl⟩)
                | (go_at_call 24; refine t24.mono ?_; rintro e w9 ⟨rfl, rfl⟩))
              go_roundw
              case rel => exact ⟨k + 1, lw, t, m + 1, by have := HK.out; omega, by have := HK.out; omega, rfl, rfl, by go_num, by go_num, (⟨_, H8.out, HT.out.ok.probe _ _, HTI.out, by have := HT.out.m; omega, HML.out.1, HML.out.2, HPB.out.2.2.1.trans S8.out⟩ : ∃ s, Th w2 _ b (k + 1) lw t (m + 1) s)⟩
              case measure => simp [intOf]; have := HK.out; omega
            · have HC := hide2 (And.intro hm0 (And.intro (show ¬ (m = 0 ∨ rg t < rg lw) by omega) (show ¬ (m = 0 ∨ rg hw < rg t) by omega)))
              clear hm0 hl hh
              have HTI : Hid (Tm (s.probe true t) (rg lw) (rg hw) (m + 1)) := by
                have := tm_count HT.out.tm HTK.out HM.out
                rw [if_neg HC.out.2.1, if_neg HC.out.2.2] at this; exact this
              have bd := HTI.out.pos (by omega)
              have tk8 : (s.probe true t).took < INF := (HT.out.ok.probe true t).took
              obtain ⟨S8t, hS8t⟩ : ∃ x, (s.probe true t).took = x := ⟨_, rfl⟩
              rw [hS8t] at bd tk8
              have t23 : Calls Try.prog 23 #[.pointer (some ⟨b, 0, none⟩)] w8 fun e w' => e = .returned (.float .f64 S8t) ∧ w' = w8 := by rw [← hS8t]; exact took_any _ _ _ w8 H8.out.pv
              have t24 : Calls Try.prog 24 #[.pointer (some ⟨b, 0, none⟩)] w8 fun e w' => e = .returned (.int .i64 ((m : Int) + 1)) ∧ w' = w8 := by
                have e : (((s.probe true t).timed : Nat) : Int) = (m : Int) + 1 := by have := HTI.out.num; omega
                rw [← e]; exact timed_any _ _ _ w8 H8.out.pv
              have mlo : mb lw := HT.out.lw
              have mhi : mb hw := HT.out.hw
              have gge : (FloatKind.f64.format.order S8t lw == some .gt || FloatKind.f64.format.order S8t lw == some .eq) = true := by
                rw [gt_mb (mb_pos tk8) mlo, eq_mb (mb_pos tk8) mlo, rg_pos tk8]; simp; omega
              have gle : (FloatKind.f64.format.order S8t hw == some .lt || FloatKind.f64.format.order S8t hw == some .eq) = true := by
                rw [lt_mb (mb_pos tk8) mhi, eq_mb (mb_pos tk8) mhi, rg_pos tk8]; simp; omega
              have HML := hide2 (And.intro mlo mhi)
              clear bd tk8 hS8t mlo mhi
              have gm : ((m : Int) == 0) = false := by have := HC.out.1; simp; omega
              have gl : (FloatKind.f64.format.order t lw == some .lt) = false := by rw [lt_mb HM.out HT.out.lw]; have := HC.out.2.1; simp; omega
              have gh : (FloatKind.f64.format.order t hw == some .gt) = false := by rw [gt_mb HM.out HT.out.hw]; have := HC.out.2.2; simp; omega
              go_wp2_with (first
                | (go_at_call 23; refine t23.mono ?_; rintro e w9 ⟨rfl, rfl⟩)
                | (go_at_call 24; refine t24.mono ?_; rintro e w9 ⟨rfl, rfl⟩))
              go_roundw
              case rel => exact ⟨k + 1, lw, hw, m + 1, by have := HK.out; omega, by have := HK.out; omega, rfl, rfl, by go_num, by go_num, (⟨_, H8.out, HT.out.ok.probe _ _, HTI.out, by have := HT.out.m; omega, HML.out.1, HML.out.2, HPB.out.2.2.1.trans S8.out⟩ : ∃ s, Th w2 _ b (k + 1) lw hw (m + 1) s)⟩
              case measure => simp [intOf]; have := HK.out; omega
      · have hti := tm_idle HT.out.tm hc
        have HTI := hide2 hti.1
        have t23 : Calls Try.prog 23 #[.pointer (some ⟨b, 0, none⟩)] w8 fun e w' => e = .returned (.float .f64 s.took) ∧ w' = w8 := by rw [← hti.2]; exact took_any _ _ _ w8 H8.out.pv
        have t24 : Calls Try.prog 24 #[.pointer (some ⟨b, 0, none⟩)] w8 fun e w' => e = .returned (.int .i64 (m : Int)) ∧ w' = w8 := by rw [← hti.1.num]; exact timed_any _ _ _ w8 H8.out.pv
        have geq : (FloatKind.f64.format.order s.took s.took == some .eq) = true := by rw [eq_mb (mb_pos HTK.out) (mb_pos HTK.out)]; simp
        have gmm : ((m : Int) == (m : Int)) = true := by simp
        have geq2 : (FloatKind.f64.format.order s.took s.took != some .eq) = false := by have := geq; simp at this ⊢; exact this
        clear hti
        cases ok with
        | false =>
          clear hc
          go_wp2_with (first
            | (go_at_call 23; refine t23.mono ?_; rintro e w9 ⟨rfl, rfl⟩)
            | (go_at_call 24; refine t24.mono ?_; rintro e w9 ⟨rfl, rfl⟩))
          go_roundw
          case rel => exact ⟨k + 1, lw, hw, m, by have := HK.out; omega, by have := HK.out; omega, rfl, rfl, rfl, by go_num, (⟨_, H8.out, HT.out.ok.probe _ _, HTI.out, by have := HT.out.m; omega, HT.out.lw, HT.out.hw, HPB.out.2.2.1.trans S8.out⟩ : ∃ s, Th w2 _ b (k + 1) lw hw m s)⟩
          case measure => simp [intOf]; have := HK.out; omega
        | true =>
          have hnm : ¬ mb t := fun h => hc ⟨rfl, h⟩
          by_cases h2 : rg t = INF ∧ ng t = false
          · have hge : (FloatKind.f64.format.order t 0 == some .gt || FloatKind.f64.format.order t 0 == some .eq) = true := by
              show (double.order t 0 == some .gt || double.order t 0 == some .eq) = true
              rw [ge_zero]; exact decide_eq_true (Or.inr h2)
            obtain ⟨rr, hrr, hrun⟩ := run_nan .sub t t w8 (sub_none t (by omega)) (.inr (.inl rfl))
            have hq0 : (FloatKind.f64.format.order rr 0 == some .eq) = false := by
              show (double.order rr 0 == some .eq) = false
              rw [order_nan rr 0 (.inl hrr)]; rfl
            have hq1 : (FloatKind.f64.format.order rr 0 != some .eq) = true := by
              show (double.order rr 0 != some .eq) = true
              rw [order_nan rr 0 (.inl hrr)]; rfl
            obtain ⟨wd, hwd⟩ : ∃ wd, w8.drewN 1 = wd := ⟨_, rfl⟩
            have HD8 : Hid (Hs wd b (s.probe true t)) := hwd ▸ H8.out.drew 1
            have SD8 : Hid (Stp w7 wd [b] [b]) := S8.out.trans (hwd ▸ Stp.drew 1 [b])
            rw [hwd] at hrun
            have t23d : Calls Try.prog 23 #[.pointer (some ⟨b, 0, none⟩)] wd fun e w' => e = .returned (.float .f64 s.took) ∧ w' = wd := by
              have e := took_any _ _ _ wd HD8.out.pv
              have e2 : (some (s.probe true t) : Option St).elim 0 St.took = s.took := (tm_idle HT.out.tm hc).2
              rw [e2] at e; exact e
            have t24d : Calls Try.prog 24 #[.pointer (some ⟨b, 0, none⟩)] wd fun e w' => e = .returned (.int .i64 (m : Int)) ∧ w' = wd := by
              have e := timed_any _ _ _ wd HD8.out.pv
              have e2 : ((some (s.probe true t) : Option St).elim 0 fun s => (s.timed : Int)) = (m : Int) := by have := (tm_idle HT.out.tm hc).1.num; show ((s.probe true t).timed : Int) = m; omega
              rw [e2] at e; exact e
            clear h2 hnm hc hrr hwd t23 t24
            go_wp2_with (first
              | (go_at_call 23; refine t23d.mono ?_; rintro e w9 ⟨rfl, rfl⟩)
              | (go_at_call 24; refine t24d.mono ?_; rintro e w9 ⟨rfl, rfl⟩))
            go_roundw
            case rel => exact ⟨k + 1, lw, hw, m, by have := HK.out; omega, by have := HK.out; omega, rfl, rfl, rfl, by go_num, (⟨_, HD8.out, HT.out.ok.probe _ _, HTI.out, by have := HT.out.m; omega, HT.out.lw, HT.out.hw, HPB.out.2.2.1.trans SD8.out⟩ : ∃ s, Th w2 _ b (k + 1) lw hw m s)⟩
            case measure => simp [intOf]; have := HK.out; omega
          · have hge : (FloatKind.f64.format.order t 0 == some .gt || FloatKind.f64.format.order t 0 == some .eq) = false := by
              show (double.order t 0 == some .gt || double.order t 0 == some .eq) = false
              rw [ge_zero, decide_eq_false_iff_not]
              rintro (h | h)
              · exact hnm h
              · exact h2 h
            clear h2 hnm hc
            go_wp2_with (first
              | (go_at_call 23; refine t23.mono ?_; rintro e w9 ⟨rfl, rfl⟩)
              | (go_at_call 24; refine t24.mono ?_; rintro e w9 ⟨rfl, rfl⟩))
            go_roundw
            case rel => exact ⟨k + 1, lw, hw, m, by have := HK.out; omega, by have := HK.out; omega, rfl, rfl, rfl, by go_num, (⟨_, H8.out, HT.out.ok.probe _ _, HTI.out, by have := HT.out.m; omega, HT.out.lw, HT.out.hw, HPB.out.2.2.1.trans S8.out⟩ : ∃ s, Th w2 _ b (k + 1) lw hw m s)⟩
            case measure => simp [intOf]; have := HK.out; omega
    · have hge : ¬ ((k : Int) < n) ∨ (k : Int) < n ∧ ¬ (k : Int) < 400 := by omega
      have c1 := took_any _ _ _ wr hT.hs.pv
      have hfin : ¬ m = 0 ∨ m = 0 ∧ s.took = 0 := by
        rcases Nat.eq_zero_or_pos m with h | h
        · exact .inr ⟨h, hT.tm.zero h⟩
        · exact .inl (by omega)
      clear hT hBr hlt hk hk4
      rcases hfin with hm | ⟨rfl, ht0⟩
      · have hm2 : (0 : Int) < m := by omega
        clear hm
        rcases hge with hge | ⟨hge, hge2⟩
        · go_wp2_with (go_at_call 23; refine c1.mono ?_; rintro e w7 ⟨rfl, rfl⟩)
          go_ret
          exact ⟨rfl, HBR.out⟩
        · go_wp2_with (go_at_call 23; refine c1.mono ?_; rintro e w7 ⟨rfl, rfl⟩)
          go_ret
          exact ⟨rfl, HBR.out⟩
      · have c2 : Calls Try.prog 23 #[.pointer (some ⟨b, 0, none⟩)] wr fun e w' => e = .returned (.float .f64 0) ∧ w' = wr := by
          have e : (some s : Option St).elim 0 St.took = 0 := ht0
          rw [e] at c1; exact c1
        have hq0 : (FloatKind.f64.format.order 0 0 == some .eq) = true := by decide +kernel
        clear c1 ht0
        rcases hge with hge | ⟨hge, hge2⟩
        · go_wp2_with (go_at_call 23; refine c2.mono ?_; rintro e w7 ⟨rfl, rfl⟩)
          go_ret
          exact ⟨rfl, HBR.out⟩
        · go_wp2_with (go_at_call 23; refine c2.mono ?_; rintro e w7 ⟨rfl, rfl⟩)
          go_ret
          exact ⟨rfl, HBR.out⟩
end Go.Proofs.Ytlgpohjffahbcaa
