/- What the document's state has come to. -/
import Derived.Test.YtlgpohjffahbcaaHe
namespace Go.Proofs.Ytlgpohjffahbcaa
open Go.RowKit Ieee
set_option linter.unusedVariables false
set_option linter.unusedSimpArgs false
/-- all probes, one by one -/
def runL (s : St) (L : List (Bool × Nat)) : St := L.foldl (fun s p => s.probe p.1 p.2) s
theorem runL_append (s : St) (L M : List (Bool × Nat)) : runL s (L ++ M) = runL (runL s L) M := by simp [runL]
theorem Ok.run {L : List (Bool × Nat)} : ∀ {s : St} {n : Nat}, Ok s n → Ok (runL s L) (n + L.length) := by
  induction L with
  | nil => intro s n h; exact h
  | cons a l ih =>
    intro s n h
    have := ih (h.probe a.1 a.2)
    rw [show n + 1 + l.length = n + (a :: l).length by simp; omega] at this
    exact this
theorem probe_keeps (s : St) (ok : Bool) (t : Nat) : (s.probe ok t).rise = s.rise ∧ (s.probe ok t).fall = s.fall := by
  unfold St.probe St.tmd St.rowed
  split <;> split <;> exact ⟨rfl, rfl⟩
theorem run_keeps (L : List (Bool × Nat)) : ∀ s : St, (runL s L).rise = s.rise ∧ (runL s L).fall = s.fall := by
  induction L with
  | nil => intro s; exact ⟨rfl, rfl⟩
  | cons a l ih =>
    intro s
    have := ih (s.probe a.1 a.2)
    exact ⟨this.1.trans (probe_keeps s _ _).1, this.2.trans (probe_keeps s _ _).2⟩
theorem run_take (s : St) (L : List (Bool × Nat)) (k : Nat) (h : k < L.length) : runL s (L.take (k + 1)) = (runL s (L.take k)).probe (L.getD k (false, 0)).1 (L.getD k (false, 0)).2 := by
  rw [List.take_add_one, runL_append]
  simp [h, runL]
def ncl (u : Bool) (r : Int) (k : Nat) (m t : Int) : Array Value := #[.bool u, .int .i64 r, .float .f64 k, .int .i64 m, .int .i64 t]
/-- the round's blocks -/
structure Nw (w wx : World) (P : Nat) (u : Bool) (r : Int) (k : Nat) (m tn : Int) (ok : Bool) (t : Nat) : Prop where
  below : Below w.heap.size w wx
  nb : wx.heap[w.heap.size + 1]? = some (.cells (ncl u r k m tn) 61 (0, 0))
  rb : wx.heap[w.heap.size]? = some (.cells (ncl false 0 0 0 0) 61 (0, 0))
  pb : wx.heap[P]? = some (.cells #[.bool ok, .float .f64 t] 34 (0, 0))
  ne : w.heap.size + 1 < P
theorem Nw.cells {w wx : World} {P : Nat} {u : Bool} {r : Int} {k : Nat} {m tn : Int} {ok : Bool} {t : Nat} (h : Nw w wx P u r k m tn ok t) :
    wx.cell? ⟨w.heap.size + 1, 0, none⟩ = some (.bool u) ∧ wx.cell? ⟨w.heap.size + 1, 1, none⟩ = some (.int .i64 r) ∧ wx.cell? ⟨w.heap.size + 1, 2, none⟩ = some (.float .f64 k) ∧ wx.cell? ⟨w.heap.size + 1, 3, none⟩ = some (.int .i64 m) ∧ wx.cell? ⟨w.heap.size + 1, 4, none⟩ = some (.int .i64 tn) ∧ wx.cell? ⟨P, 0, none⟩ = some (.bool ok) ∧ wx.cell? ⟨P, 1, none⟩ = some (.float .f64 t) ∧ ∀ o, wx.frozen? ⟨w.heap.size + 1, o, none⟩ = false := by
  have a := h.nb; have b := h.pb
  refine ⟨?_, ?_, ?_, ?_, ?_, ?_, ?_, fun o => ?_⟩
  · simp [World.cell?, a]; rfl
  · simp [World.cell?, a]; rfl
  · simp [World.cell?, a]; rfl
  · simp [World.cell?, a]; rfl
  · simp [World.cell?, a]; rfl
  · simp [World.cell?, b]
  · simp [World.cell?, b]
  · simp [World.frozen?, a]
theorem Nw.drew {w wx : World} {P : Nat} {u : Bool} {r : Int} {k : Nat} {m tn : Int} {ok : Bool} {t : Nat} (h : Nw w wx P u r k m tn ok t) (q : Nat) : Nw w (wx.drewN q) P u r k m tn ok t :=
  ⟨h.below.trans ⟨rfl, rfl, rfl, Nat.le_refl _, fun _ _ => rfl⟩, h.nb, h.rb, h.pb, h.ne⟩
theorem Nw.set {w wx : World} {P : Nat} {u u' : Bool} {r r' : Int} {k k' : Nat} {m m' tn tn' : Int} {ok : Bool} {t : Nat} (h : Nw w wx P u r k m tn ok t) (o : Nat) (v : Value) (e : (ncl u r k m tn).setIfInBounds o v = ncl u' r' k' m' tn') : Nw w (wx.setCell ⟨w.heap.size + 1, o, none⟩ v) P u' r' k' m' tn' ok t := by
  refine ⟨h.below.trans ⟨rfl, rfl, rfl, by simp [World.setCell], fun j hj => Below.heap_setCell _ _ _ _ (by show j ≠ w.heap.size + 1; omega)⟩, ?_, ?_, ?_, h.ne⟩
  · rw [set_blk h.nb, e]
  · exact (Below.heap_setCell _ _ _ _ (by show w.heap.size ≠ w.heap.size + 1; omega)).trans h.rb
  · exact (Below.heap_setCell _ _ _ _ (by show P ≠ w.heap.size + 1; have := h.ne; omega)).trans h.pb
theorem run_nan (op : BinOp) (x y : Nat) (w : World) (h : floatBits op .f64 x y = none) (hop : op = .add ∨ op = .sub ∨ op = .quo) : ∃ r, INF < rg r ∧ (binOp op 32 (.float .f64 x) (.float .f64 y)).run Try.prog w = .ok (.float .f64 r) (w.drewN 1) := by
  unfold floatBits at h
  refine ⟨(Question.nanBits .f64 x y).cut (w.tape w.drawn (.nanBits .f64 x y)), ?_, ?_⟩
  · show INF < rg ((_ % 2) * 2 ^ 63 + 0x7ff0000000000000 + 1 + _ % (2 ^ 52 - 1))
    unfold rg
    generalize w.tape w.drawn (.nanBits .f64 x y) = t
    have e : t % 2 * 2 ^ 63 + 0x7ff0000000000000 + 1 + t / 2 % (2 ^ 52 - 1) = (0x7ff0000000000000 + 1 + t / 2 % (2 ^ 52 - 1)) + 2 ^ 63 * (t % 2) := by omega
    rw [e, Nat.add_mul_mod_self_left, Nat.mod_eq_of_lt (by omega)]
    simp only [INF]
    omega
  · rcases hop with rfl | rfl | rfl
    all_goals
      simp only at h
      simp [binOp, Op.floatArith, h, Question.forced, World.drewN]
structure Nv (w wx : World) (s : St) : Prop where
  below : Below w.heap.size w wx
  nb : wx.heap[w.heap.size + 1]? = some (.cells (ncl s.up s.row s.took s.timed s.turns) 61 (0, 0))
  rb : wx.heap[w.heap.size]? = some (.cells (ncl false 0 0 0 0) 61 (0, 0))
/-- whether a time counts, in the document -/
theorem rcounts_any (t : Nat) (w : World) : Calls Try.prog 35 #[.float .f64 t] w fun e w' => e = .returned (.bool (decide (mb t))) ∧ ∃ q, w' = w.drewN q := by
  have hge := ge_zero t
  by_cases hm : mb t
  · have h1 : (FloatKind.f64.format.order t 0 == some .gt || FloatKind.f64.format.order t 0 == some .eq) = true := by
      show (double.order t 0 == some .gt || double.order t 0 == some .eq) = true
      rw [hge]; exact decide_eq_true (Or.inl hm)
    have rS : (binOp .sub 32 (.float .f64 t) (.float .f64 t)).run Try.prog w = .ok (.float .f64 0) w := run_float_arith w .sub 32 .f64 _ _ _ (sub_self t hm.1)
    have hq : (FloatKind.f64.format.order 0 0 == some .eq) = true := by decide +kernel
    rw [decide_eq_true hm]
    clear hge hm
    go_enter Try.func35, Try.ntmps35
    go_wp2_with fail
    go_ret
    exact ⟨rfl, 0, by simp [World.drewN]⟩
  · rw [decide_eq_false hm]
    by_cases h2 : rg t = INF ∧ ng t = false
    · have h1 : (FloatKind.f64.format.order t 0 == some .gt || FloatKind.f64.format.order t 0 == some .eq) = true := by
        show (double.order t 0 == some .gt || double.order t 0 == some .eq) = true
        rw [hge]; exact decide_eq_true (Or.inr h2)
      obtain ⟨r, hr, hrun⟩ := run_nan .sub t t w (sub_none t (by omega)) (.inr (.inl rfl))
      have hq : (FloatKind.f64.format.order r 0 == some .eq) = false := by
        show (double.order r 0 == some .eq) = false
        rw [order_nan r 0 (.inl hr)]; rfl
      clear hge hm h2 hr
      go_enter Try.func35, Try.ntmps35
      go_wp2_with fail
      go_ret
      exact ⟨rfl, 1, rfl⟩
    · have h1 : (FloatKind.f64.format.order t 0 == some .gt || FloatKind.f64.format.order t 0 == some .eq) = false := by
        show (double.order t 0 == some .gt || double.order t 0 == some .eq) = false
        rw [hge]
        rw [decide_eq_false_iff_not]
        rintro (h | h)
        · exact hm h
        · exact h2 h
      clear hge hm h2
      go_enter Try.func35, Try.ntmps35
      go_wp2_with fail
      go_ret
      exact ⟨rfl, 0, by simp [World.drewN]⟩
theorem eq_zero {t : Nat} (h : mb t) : (FloatKind.f64.format.order t 0 == some .eq) = decide (rg t = 0) := by
  show (double.order t 0 == some .eq) = _
  rw [order_fin t 0 h.1 (by decide), sv_zero]
  change (compare (sv t) 0 == .eq) = _
  rw [cmp_eq, sv_mb h, Bool.eq_iff_iff]
  simp only [decide_eq_true_iff]
  constructor
  · intro h1
    apply Classical.byContradiction
    intro h2
    have := V_pos (Nat.pos_of_ne_zero h2)
    omega
  · intro h1; rw [h1, V_zero]; rfl
theorem mb_rg {t : Nat} (h : mb t) (h0 : ¬ rg t = 0) (ht : t < 18446744073709551616) : t = rg t := by
  rcases h.2 with h1 | h1
  · unfold ng at h1; unfold rg
    have : t / 2 ^ 63 % 2 = 0 := by
      have := (beq_eq_false_iff_ne.1 h1); omega
    omega
  · exact absurd h1 h0
def St.tm2 (s : St) (ok : Bool) (t : Nat) : Nat × Nat := if ok = true ∧ mb t then ((s.tmd t).took, (s.tmd t).timed) else (s.took, s.timed)
theorem probe_parts (s : St) (ok : Bool) (t : Nat) : (s.probe ok t).up = (s.rowed ok).up ∧ (s.probe ok t).row = (s.rowed ok).row ∧ (s.probe ok t).turns = (s.rowed ok).turns ∧ (s.probe ok t).took = (s.tm2 ok t).1 ∧ (s.probe ok t).timed = (s.tm2 ok t).2 := by
  unfold St.probe St.tm2 St.tmd St.rowed
  split <;> split <;> exact ⟨rfl, rfl, rfl, rfl, rfl⟩
set_option maxRecDepth 100000 in
set_option maxHeartbeats 4000000 in
set_option maxHeartbeats 4000000 in
theorem now_any (base c : Nat) (rise fall : Int) (L : List (Bool × Nat)) (bs : List Nat) (w : World) (h : Rs w base c rise fall L bs) (hT : okT rise fall) (hn : L.length ≤ 900) (hL : ∀ p ∈ L, p.2 < 18446744073709551616) :
    Calls Try.prog 31 #[.pointer (some ⟨c, 0, none⟩)] w fun e w' => (∃ s, s = runL (St.new rise fall) L ∧ e = .returned (.agg #[.bool s.up, .int .i64 s.row, .float .f64 s.took, .int .i64 s.timed, .int .i64 s.turns])) ∧ Below w.heap.size w w' := by
  have HR := hide2 h
  have HT := hide2 hT
  have HL := hide2 (And.intro hn hL)
  obtain ⟨a, cap, c0, c1, c2, cL⟩ := h.cells
  have hcl : c < w.heap.size := by obtain ⟨a, cap, h1, _⟩ := h; exact lt_of_block h1
  have HC := hide2 (And.intro hcl cL)
  have b0 : Below w.heap.size w ((w.alloc (.cells (ncl false 0 0 0 0) 61 (0, 0))).alloc (.cells (ncl true 0 0 0 0) 61 (0, 0))) := ((Below.refl _ _).alloc (Nat.le_refl _) _).alloc (by simp) _
  obtain ⟨n, hnn⟩ : ∃ n, L.length = n := ⟨_, rfl⟩
  have HN := hide2 hnn
  rw [hnn] at c2
  clear h hT hL hcl cL hn hnn
  go_enter Try.func31, Try.ntmps31
  go_wp2_with fail
  go_loopw [4] (fun t wr => ∃ k : Nat, k ≤ n ∧ t = .int .i64 k ∧ Hid (Nv w wr (runL (St.new rise fall) (L.take k)))) (fun t _ => n - (intOf t).toNat)
  case atStart =>
    refine ⟨0, by omega, rfl, (⟨b0, ?_, ?_⟩ : Nv w _ _)⟩
    · have := Go.heap_alloc_new (w.alloc (.cells (ncl false 0 0 0 0) 61 (0, 0))) (.cells (ncl true 0 0 0 0) 61 (0, 0))
      rw [show (w.alloc (.cells (ncl false 0 0 0 0) 61 (0, 0))).heap.size = w.heap.size + 1 from Array.size_push _] at this
      exact this
    · have h1 : ((w.alloc (.cells (ncl false 0 0 0 0) 61 (0, 0))).alloc (.cells (ncl true 0 0 0 0) 61 (0, 0))).heap[w.heap.size]? = _ := Below.heap_alloc _ _ _ (by rw [show (w.alloc (.cells (ncl false 0 0 0 0) 61 (0, 0))).heap.size = w.heap.size + 1 from Array.size_push _]; omega)
      exact h1.trans (Go.heap_alloc_new _ _)
  case round =>
    obtain ⟨k, hk, rfl, HV⟩ := hrel
    by_cases hlt : k < n
    · obtain ⟨g, rfl, q1, q2⟩ := HC.out.2 k (by have := HN.out; omega)
      obtain ⟨⟨ok, t⟩, hp⟩ : ∃ p, L.getD k (false, 0) = p := ⟨_, rfl⟩
      have HP := hide2 hp
      rw [hp] at q1 q2
      obtain ⟨s, hs⟩ : ∃ s, runL (St.new rise fall) (L.take k) = s := ⟨_, rfl⟩
      rw [hs] at HV
      have HS := hide2 hs
      have ht : t < 18446744073709551616 := by
        have := HL.out.2 (L.getD k (false, 0)) (by rw [List.getD_eq_getElem?_getD, List.getElem?_eq_getElem (by have := HN.out; omega)]; exact List.getElem_mem _)
        rw [hp] at this; exact this
      have HT64 := hide2 ht
      have hO : Ok s 900 := by
        have h1 := (Ok.new HT.out).run (L := L.take k)
        rw [hs] at h1
        have h2 : 0 + (L.take k).length ≤ 900 := by have := HL.out.1; simp; omega
        exact ⟨h1.f1, h1.r1, h1.u1, h1.d1, by have := h1.row; omega, Nat.le_trans h1.turns h2, h1.took, Nat.le_trans h1.timed h2⟩
      have HO := hide2 hO
      have HF : Hid (s.rise = rise ∧ s.fall = fall) := by have := run_keeps (L.take k) (St.new rise fall); rw [hs] at this; exact this
      have d2 := cell_of_below HV.out.below c2
      have p1 := cell_of_below HV.out.below q1
      have p2 := cell_of_below HV.out.below q2
      obtain ⟨P, hP⟩ : ∃ P, wr.heap.size = P := ⟨_, rfl⟩
      obtain ⟨wp, hwp⟩ : ∃ wp, wr.alloc (.cells #[.bool ok, .float .f64 t] 34 (0, 0)) = wp := ⟨_, rfl⟩
      have NP : Hid (Nw w wp P s.up s.row s.took s.timed s.turns ok t) := by
        have hsz : w.heap.size + 1 < wr.heap.size := lt_of_block HV.out.nb
        have hb : Below wr.heap.size wr wp := hwp ▸ (Below.refl _ _).alloc (Nat.le_refl _) _
        refine ⟨HV.out.below.trans (hb.mono (by omega)), (hb.block _ hsz).trans HV.out.nb, (hb.block _ (by omega)).trans HV.out.rb, ?_, by omega⟩
        rw [← hwp, ← hP]
        exact Go.heap_alloc_new _ _
      obtain ⟨m0, m1, m2, m3, m4, m5, m6, mf⟩ := NP.out.cells
      have k0 : (0 : Int) ≤ k := by omega
      have k1 : (k : Int) < n := by omega
      have st := st_float
      have hn9 : (n : Int) ≤ 900 := by have := HL.out.1; have := HN.out; omega
      have HK := hide2 (And.intro hk hlt)
      have htm9 : (s.timed : Int) ≤ 900 ∧ (s.turns : Int) ≤ 900 ∧ -900 ≤ s.row ∧ s.row ≤ 900 := by have := hO.timed; have := hO.turns; have := hO.row; omega
      have HCC : Hid (w.cell? ⟨c, 0, none⟩ = some (.int .i64 rise) ∧ w.cell? ⟨c, 1, none⟩ = some (.int .i64 fall)) := ⟨c0, c1⟩
      have hTr : -1000 ≤ rise ∧ rise ≤ 1000 ∧ -1000 ≤ fall ∧ fall ≤ 1000 := by obtain ⟨h1, h2, h3, h4⟩ := HT.out; omega
      clear hp hs ht hO c2 q1 q2 b0 c0 c1 hk hlt
      cases ok with
      | false =>
        have NT : Hid (Nw w wp P s.up s.row (s.tm2 false t).1 (s.tm2 false t).2 s.turns false t) := NP
        obtain ⟨kk, hkk⟩ : ∃ kk, (s.tm2 false t).1 = kk := ⟨_, rfl⟩
        obtain ⟨mm, hmm⟩ : ∃ mm, (s.tm2 false t).2 = mm := ⟨_, rfl⟩
        have HKM := hide2 (And.intro hkk hmm)
        rw [hkk, hmm] at NT
        clear hkk hmm
        obtain ⟨t0, t1, t2, t3, t4, t5, t6, tf⟩ := NT.out.cells
        obtain ⟨x, hx⟩ : ∃ x, lng s.row false = x := ⟨_, rfl⟩
        have HX := hide2 hx
        have hxr := lng_range false HO.out.row
        rw [hx] at hxr
        have hx1 : -1000 ≤ x ∧ x ≤ 1000 := by omega
        clear hxr
        by_cases hneg : s.row > 0
        · have ex : (-1) = x := by rw [← hx]; unfold lng; simp; omega
          clear hx
          have HXV := hide2 (And.intro hneg ex)
          go_upto_region 25 with fail
          obtain ⟨wu, hwu⟩ : ∃ wu, ((wp.setCell ⟨w.heap.size + 1, 1, none⟩ (.int .i64 0)).setCell ⟨w.heap.size + 1, 1, none⟩ (.int .i64 x)) = wu := ⟨_, rfl⟩
          rw [hwu]
          have NU : Hid (Nw w wu P s.up x kk (mm : Int) s.turns false t) := hwu ▸ ((NT.out.set (u' := s.up) (r' := 0) (k' := kk) (m' := mm) (tn' := s.turns) 1 (.int .i64 0) rfl).set (u' := s.up) (r' := x) (k' := kk) (m' := mm) (tn' := s.turns) 1 (.int .i64 x) rfl)
          clear hwu ex hneg t0 t1 t2 t3 t4 t5 t6 tf
          obtain ⟨v0, v1, v2, v3, v4, v5, v6, vf⟩ := NU.out.cells
          have g0 := cell_of_below NU.out.below HCC.out.1
          have g1 := cell_of_below NU.out.below HCC.out.2
          have hu1 := HO.out.u1
          have hd1 := HO.out.d1
          have hthr : thr s = if s.up then -fall else rise := by unfold thr; rw [HF.out.1, HF.out.2]
          cases hup : s.up with
          | true =>
            have HUP := hide2 hup
            rw [hup] at NU hthr hu1 hd1
            replace v0 : wu.cell? ⟨w.heap.size + 1, 0, none⟩ = some (.bool true) := hup ▸ v0
            replace hthr : thr s = -fall := hthr
            by_cases htg : x = thr s
            · have HTH := hide2 htg
              have hle : x ≤ -fall := by omega
              clear hup hthr hu1 hd1 htg
              go_quiet (fail)
              obtain ⟨wv, hwv⟩ : ∃ wv, wu.drewN nq = wv := ⟨_, rfl⟩
              rw [hwv]
              have NV : Hid (Nw w wv P true x kk (mm : Int) s.turns false t) := hwv ▸ NU.out.drew nq
              clear hwv
              obtain ⟨v0, v1, v2, v3, v4, v5, v6, vf⟩ := NV.out.cells
              go_wp2_with fail
              go_roundw
              case rel =>
                refine ⟨k + 1, by have := HK.out; omega, by go_num, ?_⟩
                have eq1 := run_take (St.new rise fall) L k (by have := HK.out; have := HN.out; omega)
                rw [HS.out, HP.out] at eq1
                have pp := probe_parts s false t
                have rw1 : (s.rowed false) = { s with up := !s.up, row := 0, turns := s.turns + 1 } := by
                  have := HTH.out
                  unfold St.rowed
                  rw [HX.out, if_pos this]
                rw [rw1, HUP.out] at pp
                refine (?_ : Nv w _ (runL (St.new rise fall) (L.take (k + 1))))
                rw [eq1]
                have NE := ((NV.out.set (u' := false) (r' := x) (k' := kk) (m' := mm) (tn' := s.turns) 0 (.bool false) rfl).set (u' := false) (r' := 0) (k' := kk) (m' := mm) (tn' := s.turns) 1 (.int .i64 0) rfl).set (u' := false) (r' := 0) (k' := kk) (m' := mm) (tn' := s.turns + 1) 4 (.int .i64 (s.turns + 1)) rfl
                refine ⟨NE.below, ?_, NE.rb⟩
                rw [NE.nb, pp.1, pp.2.1, pp.2.2.1, pp.2.2.2.1, pp.2.2.2.2, HKM.out.1, HKM.out.2]
                try rfl
              case measure => simp [intOf]; have := HK.out; omega
            · have HTH := hide2 htg
              have hle : ¬ x ≤ -fall := by have := hu1 rfl; obtain ⟨z1, z2⟩ := HXV.out; have := HF.out.2; obtain ⟨z3, z4, z5, z6⟩ := HT.out; omega
              clear hup hthr hu1 hd1 htg
              go_quiet (fail)
              obtain ⟨wv, hwv⟩ : ∃ wv, wu.drewN nq = wv := ⟨_, rfl⟩
              rw [hwv]
              have NV : Hid (Nw w wv P true x kk (mm : Int) s.turns false t) := hwv ▸ NU.out.drew nq
              clear hwv
              obtain ⟨v0, v1, v2, v3, v4, v5, v6, vf⟩ := NV.out.cells
              go_wp2_with fail
              go_roundw
              case rel =>
                refine ⟨k + 1, by have := HK.out; omega, by go_num, ?_⟩
                have eq1 := run_take (St.new rise fall) L k (by have := HK.out; have := HN.out; omega)
                rw [HS.out, HP.out] at eq1
                have pp := probe_parts s false t
                have rw1 : (s.rowed false) = { s with row := x } := by
                  have := HTH.out
                  unfold St.rowed
                  rw [HX.out, if_neg this]
                rw [rw1, HUP.out] at pp
                refine (?_ : Nv w _ (runL (St.new rise fall) (L.take (k + 1))))
                rw [eq1]
                have NE := NV.out
                refine ⟨NE.below, ?_, NE.rb⟩
                rw [NE.nb, pp.1, pp.2.1, pp.2.2.1, pp.2.2.2.1, pp.2.2.2.2, HKM.out.1, HKM.out.2]
                try rfl
              case measure => simp [intOf]; have := HK.out; omega
          | false =>
            have HUP := hide2 hup
            rw [hup] at NU hthr hu1 hd1
            replace v0 : wu.cell? ⟨w.heap.size + 1, 0, none⟩ = some (.bool false) := hup ▸ v0
            replace hthr : thr s = rise := hthr
            by_cases htg : x = thr s
            · have HTH := hide2 htg
              have hle : rise ≤ x := by omega
              clear hup hthr hu1 hd1 htg
              go_quiet (fail)
              obtain ⟨wv, hwv⟩ : ∃ wv, wu.drewN nq = wv := ⟨_, rfl⟩
              rw [hwv]
              have NV : Hid (Nw w wv P false x kk (mm : Int) s.turns false t) := hwv ▸ NU.out.drew nq
              clear hwv
              obtain ⟨v0, v1, v2, v3, v4, v5, v6, vf⟩ := NV.out.cells
              go_wp2_with fail
              go_roundw
              case rel =>
                refine ⟨k + 1, by have := HK.out; omega, by go_num, ?_⟩
                have eq1 := run_take (St.new rise fall) L k (by have := HK.out; have := HN.out; omega)
                rw [HS.out, HP.out] at eq1
                have pp := probe_parts s false t
                have rw1 : (s.rowed false) = { s with up := !s.up, row := 0, turns := s.turns + 1 } := by
                  have := HTH.out
                  unfold St.rowed
                  rw [HX.out, if_pos this]
                rw [rw1, HUP.out] at pp
                refine (?_ : Nv w _ (runL (St.new rise fall) (L.take (k + 1))))
                rw [eq1]
                have NE := ((NV.out.set (u' := true) (r' := x) (k' := kk) (m' := mm) (tn' := s.turns) 0 (.bool true) rfl).set (u' := true) (r' := 0) (k' := kk) (m' := mm) (tn' := s.turns) 1 (.int .i64 0) rfl).set (u' := true) (r' := 0) (k' := kk) (m' := mm) (tn' := s.turns + 1) 4 (.int .i64 (s.turns + 1)) rfl
                refine ⟨NE.below, ?_, NE.rb⟩
                rw [NE.nb, pp.1, pp.2.1, pp.2.2.1, pp.2.2.2.1, pp.2.2.2.2, HKM.out.1, HKM.out.2]
                try rfl
              case measure => simp [intOf]; have := HK.out; omega
            · have HTH := hide2 htg
              have hle : ¬ rise ≤ x := by have := hd1 rfl; obtain ⟨z1, z2⟩ := HXV.out; have := HF.out.1; obtain ⟨z3, z4, z5, z6⟩ := HT.out; omega
              clear hup hthr hu1 hd1 htg
              go_quiet (fail)
              obtain ⟨wv, hwv⟩ : ∃ wv, wu.drewN nq = wv := ⟨_, rfl⟩
              rw [hwv]
              have NV : Hid (Nw w wv P false x kk (mm : Int) s.turns false t) := hwv ▸ NU.out.drew nq
              clear hwv
              obtain ⟨v0, v1, v2, v3, v4, v5, v6, vf⟩ := NV.out.cells
              go_wp2_with fail
              go_roundw
              case rel =>
                refine ⟨k + 1, by have := HK.out; omega, by go_num, ?_⟩
                have eq1 := run_take (St.new rise fall) L k (by have := HK.out; have := HN.out; omega)
                rw [HS.out, HP.out] at eq1
                have pp := probe_parts s false t
                have rw1 : (s.rowed false) = { s with row := x } := by
                  have := HTH.out
                  unfold St.rowed
                  rw [HX.out, if_neg this]
                rw [rw1, HUP.out] at pp
                refine (?_ : Nv w _ (runL (St.new rise fall) (L.take (k + 1))))
                rw [eq1]
                have NE := NV.out
                refine ⟨NE.below, ?_, NE.rb⟩
                rw [NE.nb, pp.1, pp.2.1, pp.2.2.1, pp.2.2.2.1, pp.2.2.2.2, HKM.out.1, HKM.out.2]
                try rfl
              case measure => simp [intOf]; have := HK.out; omega
        · have ex : (s.row - 1) = x := by rw [← hx]; unfold lng; simp; omega
          clear hx
          have HXV := hide2 (And.intro hneg ex)
          go_upto_region 25 with fail
          obtain ⟨wu, hwu⟩ : ∃ wu, (wp.setCell ⟨w.heap.size + 1, 1, none⟩ (.int .i64 x)) = wu := ⟨_, rfl⟩
          rw [hwu]
          have NU : Hid (Nw w wu P s.up x kk (mm : Int) s.turns false t) := hwu ▸ (NT.out.set (u' := s.up) (r' := x) (k' := kk) (m' := mm) (tn' := s.turns) 1 (.int .i64 x) rfl)
          clear hwu ex hneg t0 t1 t2 t3 t4 t5 t6 tf
          obtain ⟨v0, v1, v2, v3, v4, v5, v6, vf⟩ := NU.out.cells
          have g0 := cell_of_below NU.out.below HCC.out.1
          have g1 := cell_of_below NU.out.below HCC.out.2
          have hu1 := HO.out.u1
          have hd1 := HO.out.d1
          have hthr : thr s = if s.up then -fall else rise := by unfold thr; rw [HF.out.1, HF.out.2]
          cases hup : s.up with
          | true =>
            have HUP := hide2 hup
            rw [hup] at NU hthr hu1 hd1
            replace v0 : wu.cell? ⟨w.heap.size + 1, 0, none⟩ = some (.bool true) := hup ▸ v0
            replace hthr : thr s = -fall := hthr
            by_cases htg : x = thr s
            · have HTH := hide2 htg
              have hle : x ≤ -fall := by omega
              clear hup hthr hu1 hd1 htg
              go_quiet (fail)
              obtain ⟨wv, hwv⟩ : ∃ wv, wu.drewN nq = wv := ⟨_, rfl⟩
              rw [hwv]
              have NV : Hid (Nw w wv P true x kk (mm : Int) s.turns false t) := hwv ▸ NU.out.drew nq
              clear hwv
              obtain ⟨v0, v1, v2, v3, v4, v5, v6, vf⟩ := NV.out.cells
              go_wp2_with fail
              go_roundw
              case rel =>
                refine ⟨k + 1, by have := HK.out; omega, by go_num, ?_⟩
                have eq1 := run_take (St.new rise fall) L k (by have := HK.out; have := HN.out; omega)
                rw [HS.out, HP.out] at eq1
                have pp := probe_parts s false t
                have rw1 : (s.rowed false) = { s with up := !s.up, row := 0, turns := s.turns + 1 } := by
                  have := HTH.out
                  unfold St.rowed
                  rw [HX.out, if_pos this]
                rw [rw1, HUP.out] at pp
                refine (?_ : Nv w _ (runL (St.new rise fall) (L.take (k + 1))))
                rw [eq1]
                have NE := ((NV.out.set (u' := false) (r' := x) (k' := kk) (m' := mm) (tn' := s.turns) 0 (.bool false) rfl).set (u' := false) (r' := 0) (k' := kk) (m' := mm) (tn' := s.turns) 1 (.int .i64 0) rfl).set (u' := false) (r' := 0) (k' := kk) (m' := mm) (tn' := s.turns + 1) 4 (.int .i64 (s.turns + 1)) rfl
                refine ⟨NE.below, ?_, NE.rb⟩
                rw [NE.nb, pp.1, pp.2.1, pp.2.2.1, pp.2.2.2.1, pp.2.2.2.2, HKM.out.1, HKM.out.2]
                try rfl
              case measure => simp [intOf]; have := HK.out; omega
            · have HTH := hide2 htg
              have hle : ¬ x ≤ -fall := by have := hu1 rfl; obtain ⟨z1, z2⟩ := HXV.out; have := HF.out.2; obtain ⟨z3, z4, z5, z6⟩ := HT.out; omega
              clear hup hthr hu1 hd1 htg
              go_quiet (fail)
              obtain ⟨wv, hwv⟩ : ∃ wv, wu.drewN nq = wv := ⟨_, rfl⟩
              rw [hwv]
              have NV : Hid (Nw w wv P true x kk (mm : Int) s.turns false t) := hwv ▸ NU.out.drew nq
              clear hwv
              obtain ⟨v0, v1, v2, v3, v4, v5, v6, vf⟩ := NV.out.cells
              go_wp2_with fail
              go_roundw
              case rel =>
                refine ⟨k + 1, by have := HK.out; omega, by go_num, ?_⟩
                have eq1 := run_take (St.new rise fall) L k (by have := HK.out; have := HN.out; omega)
                rw [HS.out, HP.out] at eq1
                have pp := probe_parts s false t
                have rw1 : (s.rowed false) = { s with row := x } := by
                  have := HTH.out
                  unfold St.rowed
                  rw [HX.out, if_neg this]
                rw [rw1, HUP.out] at pp
                refine (?_ : Nv w _ (runL (St.new rise fall) (L.take (k + 1))))
                rw [eq1]
                have NE := NV.out
                refine ⟨NE.below, ?_, NE.rb⟩
                rw [NE.nb, pp.1, pp.2.1, pp.2.2.1, pp.2.2.2.1, pp.2.2.2.2, HKM.out.1, HKM.out.2]
                try rfl
              case measure => simp [intOf]; have := HK.out; omega
          | false =>
            have HUP := hide2 hup
            rw [hup] at NU hthr hu1 hd1
            replace v0 : wu.cell? ⟨w.heap.size + 1, 0, none⟩ = some (.bool false) := hup ▸ v0
            replace hthr : thr s = rise := hthr
            by_cases htg : x = thr s
            · have HTH := hide2 htg
              have hle : rise ≤ x := by omega
              clear hup hthr hu1 hd1 htg
              go_quiet (fail)
              obtain ⟨wv, hwv⟩ : ∃ wv, wu.drewN nq = wv := ⟨_, rfl⟩
              rw [hwv]
              have NV : Hid (Nw w wv P false x kk (mm : Int) s.turns false t) := hwv ▸ NU.out.drew nq
              clear hwv
              obtain ⟨v0, v1, v2, v3, v4, v5, v6, vf⟩ := NV.out.cells
              go_wp2_with fail
              go_roundw
              case rel =>
                refine ⟨k + 1, by have := HK.out; omega, by go_num, ?_⟩
                have eq1 := run_take (St.new rise fall) L k (by have := HK.out; have := HN.out; omega)
                rw [HS.out, HP.out] at eq1
                have pp := probe_parts s false t
                have rw1 : (s.rowed false) = { s with up := !s.up, row := 0, turns := s.turns + 1 } := by
                  have := HTH.out
                  unfold St.rowed
                  rw [HX.out, if_pos this]
                rw [rw1, HUP.out] at pp
                refine (?_ : Nv w _ (runL (St.new rise fall) (L.take (k + 1))))
                rw [eq1]
                have NE := ((NV.out.set (u' := true) (r' := x) (k' := kk) (m' := mm) (tn' := s.turns) 0 (.bool true) rfl).set (u' := true) (r' := 0) (k' := kk) (m' := mm) (tn' := s.turns) 1 (.int .i64 0) rfl).set (u' := true) (r' := 0) (k' := kk) (m' := mm) (tn' := s.turns + 1) 4 (.int .i64 (s.turns + 1)) rfl
                refine ⟨NE.below, ?_, NE.rb⟩
                rw [NE.nb, pp.1, pp.2.1, pp.2.2.1, pp.2.2.2.1, pp.2.2.2.2, HKM.out.1, HKM.out.2]
                try rfl
              case measure => simp [intOf]; have := HK.out; omega
            · have HTH := hide2 htg
              have hle : ¬ rise ≤ x := by have := hd1 rfl; obtain ⟨z1, z2⟩ := HXV.out; have := HF.out.1; obtain ⟨z3, z4, z5, z6⟩ := HT.out; omega
              clear hup hthr hu1 hd1 htg
              go_quiet (fail)
              obtain ⟨wv, hwv⟩ : ∃ wv, wu.drewN nq = wv := ⟨_, rfl⟩
              rw [hwv]
              have NV : Hid (Nw w wv P false x kk (mm : Int) s.turns false t) := hwv ▸ NU.out.drew nq
              clear hwv
              obtain ⟨v0, v1, v2, v3, v4, v5, v6, vf⟩ := NV.out.cells
              go_wp2_with fail
              go_roundw
              case rel =>
                refine ⟨k + 1, by have := HK.out; omega, by go_num, ?_⟩
                have eq1 := run_take (St.new rise fall) L k (by have := HK.out; have := HN.out; omega)
                rw [HS.out, HP.out] at eq1
                have pp := probe_parts s false t
                have rw1 : (s.rowed false) = { s with row := x } := by
                  have := HTH.out
                  unfold St.rowed
                  rw [HX.out, if_neg this]
                rw [rw1, HUP.out] at pp
                refine (?_ : Nv w _ (runL (St.new rise fall) (L.take (k + 1))))
                rw [eq1]
                have NE := NV.out
                refine ⟨NE.below, ?_, NE.rb⟩
                rw [NE.nb, pp.1, pp.2.1, pp.2.2.1, pp.2.2.2.1, pp.2.2.2.2, HKM.out.1, HKM.out.2]
                try rfl
              case measure => simp [intOf]; have := HK.out; omega
      | true =>
        have hct := rcounts_any t wp
        by_cases hm : mb t
        · rw [decide_eq_true hm] at hct
          have HM := hide2 hm
          have hz := eq_zero hm
          have e12 : s.tm2 true t = ((s.tmd t).took, (s.tmd t).timed) := by unfold St.tm2; rw [if_pos ⟨rfl, hm⟩]
          have E12 := hide2 e12
          clear e12 hm
          go_upto_if 34 with (first
            | (go_at_call 35; refine hct.mono ?_; rintro e w' ⟨rfl, q, hq⟩; have NQ := hide2 (hq ▸ NP.out.drew q : Nw w w' P s.up s.row s.took s.timed s.turns true t); obtain ⟨n0, n1, n2, n3, n4, n5, n6, nf⟩ := NQ.out.cells; clear hq hct))
          go_cut [] (fun wx => Hid (Nw w wx P s.up s.row (s.tm2 true t).1 (s.tm2 true t).2 s.turns true t))
          case first =>
            by_cases h0 : rg t = 0
            · rw [decide_eq_true h0] at hz
              have RT := hide2 h0
              clear h0
              by_cases hd : s.timed = 0
              · have HD := hide2 hd
                have hd2 : ((s.timed : Int) == 0) = true := by simpa using hd
                clear hd
                go_wp2_with fail
                go_meet
                refine (?_ : Nw w _ P s.up s.row (s.tm2 true t).1 (s.tm2 true t).2 s.turns true t)
                rw [E12.out]
                have ev : (s.tmd t).took = 0 := by unfold St.tmd; dsimp only; rw [if_pos HD.out, RT.out]
                have em : (((s.tmd t).timed : Nat) : Int) = (s.timed : Int) + 1 := by unfold St.tmd; dsimp only; omega
                rw [ev, em]
                exact (NQ.out.set (u' := s.up) (r' := s.row) (k' := 0) (m' := s.timed) (tn' := s.turns) 2 _ rfl).set (u' := s.up) (r' := s.row) (k' := 0) (m' := s.timed + 1) (tn' := s.turns) 3 _ rfl
              · have HD := hide2 hd
                have hd2 : ((s.timed : Int) == 0) = false := by simpa using hd
                obtain ⟨dd, qq, e1, e2, e3, _⟩ := sm_spec HO.out.took HM.out.1
                rw [RT.out] at e1 e3
                have f1 : ∀ wx : World, (binOp .sub 32 (.float .f64 0) (.float .f64 s.took)).run Try.prog wx = .ok (.float .f64 dd) wx := fun wx => run_float_arith wx .sub 32 .f64 _ _ _ e1
                have f2 : ∀ wx : World, (binOp .quo 32 (.float .f64 dd) (.float .f64 4616189618054758400)).run Try.prog wx = .ok (.float .f64 qq) wx := fun wx => run_float_arith wx .quo 32 .f64 _ _ _ e2
                have f3 : ∀ wx : World, (binOp .add 32 (.float .f64 s.took) (.float .f64 qq)).run Try.prog wx = .ok (.float .f64 (SM s.took 0)) wx := fun wx => run_float_arith wx .add 32 .f64 _ _ _ e3
                clear e1 e2 e3
                clear hd
                go_wp2_with fail
                go_meet
                refine (?_ : Nw w _ P s.up s.row (s.tm2 true t).1 (s.tm2 true t).2 s.turns true t)
                rw [E12.out]
                have ev : (s.tmd t).took = SM s.took 0 := by unfold St.tmd; dsimp only; rw [if_neg HD.out, RT.out]
                have em : (((s.tmd t).timed : Nat) : Int) = (s.timed : Int) + 1 := by unfold St.tmd; dsimp only; omega
                rw [ev, em]
                exact (NQ.out.set (u' := s.up) (r' := s.row) (k' := SM s.took 0) (m' := s.timed) (tn' := s.turns) 2 _ rfl).set (u' := s.up) (r' := s.row) (k' := SM s.took 0) (m' := s.timed + 1) (tn' := s.turns) 3 _ rfl
            · rw [decide_eq_false h0] at hz
              have RT := hide2 (mb_rg HM.out h0 HT64.out)
              clear h0
              by_cases hd : s.timed = 0
              · have HD := hide2 hd
                have hd2 : ((s.timed : Int) == 0) = true := by simpa using hd
                clear hd
                go_wp2_with fail
                go_meet
                refine (?_ : Nw w _ P s.up s.row (s.tm2 true t).1 (s.tm2 true t).2 s.turns true t)
                rw [E12.out]
                have ev : (s.tmd t).took = t := by unfold St.tmd; dsimp only; rw [if_pos HD.out, ← RT.out]
                have em : (((s.tmd t).timed : Nat) : Int) = (s.timed : Int) + 1 := by unfold St.tmd; dsimp only; omega
                rw [ev, em]
                exact (NQ.out.set (u' := s.up) (r' := s.row) (k' := t) (m' := s.timed) (tn' := s.turns) 2 _ rfl).set (u' := s.up) (r' := s.row) (k' := t) (m' := s.timed + 1) (tn' := s.turns) 3 _ rfl
              · have HD := hide2 hd
                have hd2 : ((s.timed : Int) == 0) = false := by simpa using hd
                obtain ⟨dd, qq, e1, e2, e3, _⟩ := sm_spec HO.out.took HM.out.1
                rw [← RT.out] at e1 e3
                have f1 : ∀ wx : World, (binOp .sub 32 (.float .f64 t) (.float .f64 s.took)).run Try.prog wx = .ok (.float .f64 dd) wx := fun wx => run_float_arith wx .sub 32 .f64 _ _ _ e1
                have f2 : ∀ wx : World, (binOp .quo 32 (.float .f64 dd) (.float .f64 4616189618054758400)).run Try.prog wx = .ok (.float .f64 qq) wx := fun wx => run_float_arith wx .quo 32 .f64 _ _ _ e2
                have f3 : ∀ wx : World, (binOp .add 32 (.float .f64 s.took) (.float .f64 qq)).run Try.prog wx = .ok (.float .f64 (SM s.took t)) wx := fun wx => run_float_arith wx .add 32 .f64 _ _ _ e3
                clear e1 e2 e3
                clear hd
                go_wp2_with fail
                go_meet
                refine (?_ : Nw w _ P s.up s.row (s.tm2 true t).1 (s.tm2 true t).2 s.turns true t)
                rw [E12.out]
                have ev : (s.tmd t).took = SM s.took t := by unfold St.tmd; dsimp only; rw [if_neg HD.out, ← RT.out]
                have em : (((s.tmd t).timed : Nat) : Int) = (s.timed : Int) + 1 := by unfold St.tmd; dsimp only; omega
                rw [ev, em]
                exact (NQ.out.set (u' := s.up) (r' := s.row) (k' := SM s.took t) (m' := s.timed) (tn' := s.turns) 2 _ rfl).set (u' := s.up) (r' := s.row) (k' := SM s.took t) (m' := s.timed + 1) (tn' := s.turns) 3 _ rfl
          case rest =>
            have NT := hcut
            clear hcut hz
            obtain ⟨kk, hkk⟩ : ∃ kk, (s.tm2 true t).1 = kk := ⟨_, rfl⟩
            obtain ⟨mm, hmm⟩ : ∃ mm, (s.tm2 true t).2 = mm := ⟨_, rfl⟩
            have HKM := hide2 (And.intro hkk hmm)
            rw [hkk, hmm] at NT
            clear hkk hmm
            obtain ⟨t0, t1, t2, t3, t4, t5, t6, tf⟩ := NT.out.cells
            obtain ⟨x, hx⟩ : ∃ x, lng s.row true = x := ⟨_, rfl⟩
            have HX := hide2 hx
            have hxr := lng_range true HO.out.row
            rw [hx] at hxr
            have hx1 : -1000 ≤ x ∧ x ≤ 1000 := by omega
            clear hxr
            by_cases hneg : s.row < 0
            · have ex : 1 = x := by rw [← hx]; unfold lng; simp; omega
              clear hx
              have HXV := hide2 (And.intro hneg ex)
              go_upto_region 25 with fail
              obtain ⟨wu, hwu⟩ : ∃ wu, ((wc.setCell ⟨w.heap.size + 1, 1, none⟩ (.int .i64 0)).setCell ⟨w.heap.size + 1, 1, none⟩ (.int .i64 x)) = wu := ⟨_, rfl⟩
              rw [hwu]
              have NU : Hid (Nw w wu P s.up x kk (mm : Int) s.turns true t) := hwu ▸ ((NT.out.set (u' := s.up) (r' := 0) (k' := kk) (m' := mm) (tn' := s.turns) 1 (.int .i64 0) rfl).set (u' := s.up) (r' := x) (k' := kk) (m' := mm) (tn' := s.turns) 1 (.int .i64 x) rfl)
              clear hwu ex hneg t0 t1 t2 t3 t4 t5 t6 tf
              obtain ⟨v0, v1, v2, v3, v4, v5, v6, vf⟩ := NU.out.cells
              have g0 := cell_of_below NU.out.below HCC.out.1
              have g1 := cell_of_below NU.out.below HCC.out.2
              have hu1 := HO.out.u1
              have hd1 := HO.out.d1
              have hthr : thr s = if s.up then -fall else rise := by unfold thr; rw [HF.out.1, HF.out.2]
              cases hup : s.up with
              | true =>
                have HUP := hide2 hup
                rw [hup] at NU hthr hu1 hd1
                replace v0 : wu.cell? ⟨w.heap.size + 1, 0, none⟩ = some (.bool true) := hup ▸ v0
                replace hthr : thr s = -fall := hthr
                by_cases htg : x = thr s
                · have HTH := hide2 htg
                  have hle : x ≤ -fall := by omega
                  clear hup hthr hu1 hd1 htg
                  go_quiet (fail)
                  obtain ⟨wv, hwv⟩ : ∃ wv, wu.drewN nq = wv := ⟨_, rfl⟩
                  rw [hwv]
                  have NV : Hid (Nw w wv P true x kk (mm : Int) s.turns true t) := hwv ▸ NU.out.drew nq
                  clear hwv
                  obtain ⟨v0, v1, v2, v3, v4, v5, v6, vf⟩ := NV.out.cells
                  go_wp2_with fail
                  go_roundw
                  case rel =>
                    refine ⟨k + 1, by have := HK.out; omega, by go_num, ?_⟩
                    have eq1 := run_take (St.new rise fall) L k (by have := HK.out; have := HN.out; omega)
                    rw [HS.out, HP.out] at eq1
                    have pp := probe_parts s true t
                    have rw1 : (s.rowed true) = { s with up := !s.up, row := 0, turns := s.turns + 1 } := by
                      have := HTH.out
                      unfold St.rowed
                      rw [HX.out, if_pos this]
                    rw [rw1, HUP.out] at pp
                    refine (?_ : Nv w _ (runL (St.new rise fall) (L.take (k + 1))))
                    rw [eq1]
                    have NE := ((NV.out.set (u' := false) (r' := x) (k' := kk) (m' := mm) (tn' := s.turns) 0 (.bool false) rfl).set (u' := false) (r' := 0) (k' := kk) (m' := mm) (tn' := s.turns) 1 (.int .i64 0) rfl).set (u' := false) (r' := 0) (k' := kk) (m' := mm) (tn' := s.turns + 1) 4 (.int .i64 (s.turns + 1)) rfl
                    refine ⟨NE.below, ?_, NE.rb⟩
                    rw [NE.nb, pp.1, pp.2.1, pp.2.2.1, pp.2.2.2.1, pp.2.2.2.2, HKM.out.1, HKM.out.2]
                    try rfl
                  case measure => simp [intOf]; have := HK.out; omega
                · have HTH := hide2 htg
                  have hle : ¬ x ≤ -fall := by have := hu1 rfl; obtain ⟨z1, z2⟩ := HXV.out; have := HF.out.2; obtain ⟨z3, z4, z5, z6⟩ := HT.out; omega
                  clear hup hthr hu1 hd1 htg
                  go_quiet (fail)
                  obtain ⟨wv, hwv⟩ : ∃ wv, wu.drewN nq = wv := ⟨_, rfl⟩
                  rw [hwv]
                  have NV : Hid (Nw w wv P true x kk (mm : Int) s.turns true t) := hwv ▸ NU.out.drew nq
                  clear hwv
                  obtain ⟨v0, v1, v2, v3, v4, v5, v6, vf⟩ := NV.out.cells
                  go_wp2_with fail
                  go_roundw
                  case rel =>
                    refine ⟨k + 1, by have := HK.out; omega, by go_num, ?_⟩
                    have eq1 := run_take (St.new rise fall) L k (by have := HK.out; have := HN.out; omega)
                    rw [HS.out, HP.out] at eq1
                    have pp := probe_parts s true t
                    have rw1 : (s.rowed true) = { s with row := x } := by
                      have := HTH.out
                      unfold St.rowed
                      rw [HX.out, if_neg this]
                    rw [rw1, HUP.out] at pp
                    refine (?_ : Nv w _ (runL (St.new rise fall) (L.take (k + 1))))
                    rw [eq1]
                    have NE := NV.out
                    refine ⟨NE.below, ?_, NE.rb⟩
                    rw [NE.nb, pp.1, pp.2.1, pp.2.2.1, pp.2.2.2.1, pp.2.2.2.2, HKM.out.1, HKM.out.2]
                    try rfl
                  case measure => simp [intOf]; have := HK.out; omega
              | false =>
                have HUP := hide2 hup
                rw [hup] at NU hthr hu1 hd1
                replace v0 : wu.cell? ⟨w.heap.size + 1, 0, none⟩ = some (.bool false) := hup ▸ v0
                replace hthr : thr s = rise := hthr
                by_cases htg : x = thr s
                · have HTH := hide2 htg
                  have hle : rise ≤ x := by omega
                  clear hup hthr hu1 hd1 htg
                  go_quiet (fail)
                  obtain ⟨wv, hwv⟩ : ∃ wv, wu.drewN nq = wv := ⟨_, rfl⟩
                  rw [hwv]
                  have NV : Hid (Nw w wv P false x kk (mm : Int) s.turns true t) := hwv ▸ NU.out.drew nq
                  clear hwv
                  obtain ⟨v0, v1, v2, v3, v4, v5, v6, vf⟩ := NV.out.cells
                  go_wp2_with fail
                  go_roundw
                  case rel =>
                    refine ⟨k + 1, by have := HK.out; omega, by go_num, ?_⟩
                    have eq1 := run_take (St.new rise fall) L k (by have := HK.out; have := HN.out; omega)
                    rw [HS.out, HP.out] at eq1
                    have pp := probe_parts s true t
                    have rw1 : (s.rowed true) = { s with up := !s.up, row := 0, turns := s.turns + 1 } := by
                      have := HTH.out
                      unfold St.rowed
                      rw [HX.out, if_pos this]
                    rw [rw1, HUP.out] at pp
                    refine (?_ : Nv w _ (runL (St.new rise fall) (L.take (k + 1))))
                    rw [eq1]
                    have NE := ((NV.out.set (u' := true) (r' := x) (k' := kk) (m' := mm) (tn' := s.turns) 0 (.bool true) rfl).set (u' := true) (r' := 0) (k' := kk) (m' := mm) (tn' := s.turns) 1 (.int .i64 0) rfl).set (u' := true) (r' := 0) (k' := kk) (m' := mm) (tn' := s.turns + 1) 4 (.int .i64 (s.turns + 1)) rfl
                    refine ⟨NE.below, ?_, NE.rb⟩
                    rw [NE.nb, pp.1, pp.2.1, pp.2.2.1, pp.2.2.2.1, pp.2.2.2.2, HKM.out.1, HKM.out.2]
                    try rfl
                  case measure => simp [intOf]; have := HK.out; omega
                · have HTH := hide2 htg
                  have hle : ¬ rise ≤ x := by have := hd1 rfl; obtain ⟨z1, z2⟩ := HXV.out; have := HF.out.1; obtain ⟨z3, z4, z5, z6⟩ := HT.out; omega
                  clear hup hthr hu1 hd1 htg
                  go_quiet (fail)
                  obtain ⟨wv, hwv⟩ : ∃ wv, wu.drewN nq = wv := ⟨_, rfl⟩
                  rw [hwv]
                  have NV : Hid (Nw w wv P false x kk (mm : Int) s.turns true t) := hwv ▸ NU.out.drew nq
                  clear hwv
                  obtain ⟨v0, v1, v2, v3, v4, v5, v6, vf⟩ := NV.out.cells
                  go_wp2_with fail
                  go_roundw
                  case rel =>
                    refine ⟨k + 1, by have := HK.out; omega, by go_num, ?_⟩
                    have eq1 := run_take (St.new rise fall) L k (by have := HK.out; have := HN.out; omega)
                    rw [HS.out, HP.out] at eq1
                    have pp := probe_parts s true t
                    have rw1 : (s.rowed true) = { s with row := x } := by
                      have := HTH.out
                      unfold St.rowed
                      rw [HX.out, if_neg this]
                    rw [rw1, HUP.out] at pp
                    refine (?_ : Nv w _ (runL (St.new rise fall) (L.take (k + 1))))
                    rw [eq1]
                    have NE := NV.out
                    refine ⟨NE.below, ?_, NE.rb⟩
                    rw [NE.nb, pp.1, pp.2.1, pp.2.2.1, pp.2.2.2.1, pp.2.2.2.2, HKM.out.1, HKM.out.2]
                    try rfl
                  case measure => simp [intOf]; have := HK.out; omega
            · have ex : (s.row + 1) = x := by rw [← hx]; unfold lng; simp; omega
              clear hx
              have HXV := hide2 (And.intro hneg ex)
              go_upto_region 25 with fail
              obtain ⟨wu, hwu⟩ : ∃ wu, (wc.setCell ⟨w.heap.size + 1, 1, none⟩ (.int .i64 x)) = wu := ⟨_, rfl⟩
              rw [hwu]
              have NU : Hid (Nw w wu P s.up x kk (mm : Int) s.turns true t) := hwu ▸ (NT.out.set (u' := s.up) (r' := x) (k' := kk) (m' := mm) (tn' := s.turns) 1 (.int .i64 x) rfl)
              clear hwu ex hneg t0 t1 t2 t3 t4 t5 t6 tf
              obtain ⟨v0, v1, v2, v3, v4, v5, v6, vf⟩ := NU.out.cells
              have g0 := cell_of_below NU.out.below HCC.out.1
              have g1 := cell_of_below NU.out.below HCC.out.2
              have hu1 := HO.out.u1
              have hd1 := HO.out.d1
              have hthr : thr s = if s.up then -fall else rise := by unfold thr; rw [HF.out.1, HF.out.2]
              cases hup : s.up with
              | true =>
                have HUP := hide2 hup
                rw [hup] at NU hthr hu1 hd1
                replace v0 : wu.cell? ⟨w.heap.size + 1, 0, none⟩ = some (.bool true) := hup ▸ v0
                replace hthr : thr s = -fall := hthr
                by_cases htg : x = thr s
                · have HTH := hide2 htg
                  have hle : x ≤ -fall := by omega
                  clear hup hthr hu1 hd1 htg
                  go_quiet (fail)
                  obtain ⟨wv, hwv⟩ : ∃ wv, wu.drewN nq = wv := ⟨_, rfl⟩
                  rw [hwv]
                  have NV : Hid (Nw w wv P true x kk (mm : Int) s.turns true t) := hwv ▸ NU.out.drew nq
                  clear hwv
                  obtain ⟨v0, v1, v2, v3, v4, v5, v6, vf⟩ := NV.out.cells
                  go_wp2_with fail
                  go_roundw
                  case rel =>
                    refine ⟨k + 1, by have := HK.out; omega, by go_num, ?_⟩
                    have eq1 := run_take (St.new rise fall) L k (by have := HK.out; have := HN.out; omega)
                    rw [HS.out, HP.out] at eq1
                    have pp := probe_parts s true t
                    have rw1 : (s.rowed true) = { s with up := !s.up, row := 0, turns := s.turns + 1 } := by
                      have := HTH.out
                      unfold St.rowed
                      rw [HX.out, if_pos this]
                    rw [rw1, HUP.out] at pp
                    refine (?_ : Nv w _ (runL (St.new rise fall) (L.take (k + 1))))
                    rw [eq1]
                    have NE := ((NV.out.set (u' := false) (r' := x) (k' := kk) (m' := mm) (tn' := s.turns) 0 (.bool false) rfl).set (u' := false) (r' := 0) (k' := kk) (m' := mm) (tn' := s.turns) 1 (.int .i64 0) rfl).set (u' := false) (r' := 0) (k' := kk) (m' := mm) (tn' := s.turns + 1) 4 (.int .i64 (s.turns + 1)) rfl
                    refine ⟨NE.below, ?_, NE.rb⟩
                    rw [NE.nb, pp.1, pp.2.1, pp.2.2.1, pp.2.2.2.1, pp.2.2.2.2, HKM.out.1, HKM.out.2]
                    try rfl
                  case measure => simp [intOf]; have := HK.out; omega
                · have HTH := hide2 htg
                  have hle : ¬ x ≤ -fall := by have := hu1 rfl; obtain ⟨z1, z2⟩ := HXV.out; have := HF.out.2; obtain ⟨z3, z4, z5, z6⟩ := HT.out; omega
                  clear hup hthr hu1 hd1 htg
                  go_quiet (fail)
                  obtain ⟨wv, hwv⟩ : ∃ wv, wu.drewN nq = wv := ⟨_, rfl⟩
                  rw [hwv]
                  have NV : Hid (Nw w wv P true x kk (mm : Int) s.turns true t) := hwv ▸ NU.out.drew nq
                  clear hwv
                  obtain ⟨v0, v1, v2, v3, v4, v5, v6, vf⟩ := NV.out.cells
                  go_wp2_with fail
                  go_roundw
                  case rel =>
                    refine ⟨k + 1, by have := HK.out; omega, by go_num, ?_⟩
                    have eq1 := run_take (St.new rise fall) L k (by have := HK.out; have := HN.out; omega)
                    rw [HS.out, HP.out] at eq1
                    have pp := probe_parts s true t
                    have rw1 : (s.rowed true) = { s with row := x } := by
                      have := HTH.out
                      unfold St.rowed
                      rw [HX.out, if_neg this]
                    rw [rw1, HUP.out] at pp
                    refine (?_ : Nv w _ (runL (St.new rise fall) (L.take (k + 1))))
                    rw [eq1]
                    have NE := NV.out
                    refine ⟨NE.below, ?_, NE.rb⟩
                    rw [NE.nb, pp.1, pp.2.1, pp.2.2.1, pp.2.2.2.1, pp.2.2.2.2, HKM.out.1, HKM.out.2]
                    try rfl
                  case measure => simp [intOf]; have := HK.out; omega
              | false =>
                have HUP := hide2 hup
                rw [hup] at NU hthr hu1 hd1
                replace v0 : wu.cell? ⟨w.heap.size + 1, 0, none⟩ = some (.bool false) := hup ▸ v0
                replace hthr : thr s = rise := hthr
                by_cases htg : x = thr s
                · have HTH := hide2 htg
                  have hle : rise ≤ x := by omega
                  clear hup hthr hu1 hd1 htg
                  go_quiet (fail)
                  obtain ⟨wv, hwv⟩ : ∃ wv, wu.drewN nq = wv := ⟨_, rfl⟩
                  rw [hwv]
                  have NV : Hid (Nw w wv P false x kk (mm : Int) s.turns true t) := hwv ▸ NU.out.drew nq
                  clear hwv
                  obtain ⟨v0, v1, v2, v3, v4, v5, v6, vf⟩ := NV.out.cells
                  go_wp2_with fail
                  go_roundw
                  case rel =>
                    refine ⟨k + 1, by have := HK.out; omega, by go_num, ?_⟩
                    have eq1 := run_take (St.new rise fall) L k (by have := HK.out; have := HN.out; omega)
                    rw [HS.out, HP.out] at eq1
                    have pp := probe_parts s true t
                    have rw1 : (s.rowed true) = { s with up := !s.up, row := 0, turns := s.turns + 1 } := by
                      have := HTH.out
                      unfold St.rowed
                      rw [HX.out, if_pos this]
                    rw [rw1, HUP.out] at pp
                    refine (?_ : Nv w _ (runL (St.new rise fall) (L.take (k + 1))))
                    rw [eq1]
                    have NE := ((NV.out.set (u' := true) (r' := x) (k' := kk) (m' := mm) (tn' := s.turns) 0 (.bool true) rfl).set (u' := true) (r' := 0) (k' := kk) (m' := mm) (tn' := s.turns) 1 (.int .i64 0) rfl).set (u' := true) (r' := 0) (k' := kk) (m' := mm) (tn' := s.turns + 1) 4 (.int .i64 (s.turns + 1)) rfl
                    refine ⟨NE.below, ?_, NE.rb⟩
                    rw [NE.nb, pp.1, pp.2.1, pp.2.2.1, pp.2.2.2.1, pp.2.2.2.2, HKM.out.1, HKM.out.2]
                    try rfl
                  case measure => simp [intOf]; have := HK.out; omega
                · have HTH := hide2 htg
                  have hle : ¬ rise ≤ x := by have := hd1 rfl; obtain ⟨z1, z2⟩ := HXV.out; have := HF.out.1; obtain ⟨z3, z4, z5, z6⟩ := HT.out; omega
                  clear hup hthr hu1 hd1 htg
                  go_quiet (fail)
                  obtain ⟨wv, hwv⟩ : ∃ wv, wu.drewN nq = wv := ⟨_, rfl⟩
                  rw [hwv]
                  have NV : Hid (Nw w wv P false x kk (mm : Int) s.turns true t) := hwv ▸ NU.out.drew nq
                  clear hwv
                  obtain ⟨v0, v1, v2, v3, v4, v5, v6, vf⟩ := NV.out.cells
                  go_wp2_with fail
                  go_roundw
                  case rel =>
                    refine ⟨k + 1, by have := HK.out; omega, by go_num, ?_⟩
                    have eq1 := run_take (St.new rise fall) L k (by have := HK.out; have := HN.out; omega)
                    rw [HS.out, HP.out] at eq1
                    have pp := probe_parts s true t
                    have rw1 : (s.rowed true) = { s with row := x } := by
                      have := HTH.out
                      unfold St.rowed
                      rw [HX.out, if_neg this]
                    rw [rw1, HUP.out] at pp
                    refine (?_ : Nv w _ (runL (St.new rise fall) (L.take (k + 1))))
                    rw [eq1]
                    have NE := NV.out
                    refine ⟨NE.below, ?_, NE.rb⟩
                    rw [NE.nb, pp.1, pp.2.1, pp.2.2.1, pp.2.2.2.1, pp.2.2.2.2, HKM.out.1, HKM.out.2]
                    try rfl
                  case measure => simp [intOf]; have := HK.out; omega
        · rw [decide_eq_false hm] at hct
          have e12 : s.tm2 true t = (s.took, s.timed) := by unfold St.tm2; rw [if_neg (fun h => hm h.2)]
          have E12 := hide2 e12
          clear e12 hm
          go_upto_region 19 with (first
            | (go_at_call 35; refine hct.mono ?_; rintro e w' ⟨rfl, q, hq⟩; have NQ := hide2 (hq ▸ NP.out.drew q : Nw w w' P s.up s.row s.took s.timed s.turns true t); obtain ⟨n0, n1, n2, n3, n4, n5, n6, nf⟩ := NQ.out.cells; clear hq hct))
          have NT := hide2 (show Nw w _ P s.up s.row (s.tm2 true t).1 (s.tm2 true t).2 s.turns true t by rw [E12.out]; exact NQ.out)
          obtain ⟨kk, hkk⟩ : ∃ kk, (s.tm2 true t).1 = kk := ⟨_, rfl⟩
          obtain ⟨mm, hmm⟩ : ∃ mm, (s.tm2 true t).2 = mm := ⟨_, rfl⟩
          have HKM := hide2 (And.intro hkk hmm)
          rw [hkk, hmm] at NT
          clear hkk hmm
          obtain ⟨t0, t1, t2, t3, t4, t5, t6, tf⟩ := NT.out.cells
          obtain ⟨x, hx⟩ : ∃ x, lng s.row true = x := ⟨_, rfl⟩
          have HX := hide2 hx
          have hxr := lng_range true HO.out.row
          rw [hx] at hxr
          have hx1 : -1000 ≤ x ∧ x ≤ 1000 := by omega
          clear hxr
          by_cases hneg : s.row < 0
          · have ex : 1 = x := by rw [← hx]; unfold lng; simp; omega
            clear hx
            have HXV := hide2 (And.intro hneg ex)
            go_upto_region 25 with fail
            obtain ⟨wu, hwu⟩ : ∃ wu, ((w'.setCell ⟨w.heap.size + 1, 1, none⟩ (.int .i64 0)).setCell ⟨w.heap.size + 1, 1, none⟩ (.int .i64 x)) = wu := ⟨_, rfl⟩
            rw [hwu]
            have NU : Hid (Nw w wu P s.up x kk (mm : Int) s.turns true t) := hwu ▸ ((NT.out.set (u' := s.up) (r' := 0) (k' := kk) (m' := mm) (tn' := s.turns) 1 (.int .i64 0) rfl).set (u' := s.up) (r' := x) (k' := kk) (m' := mm) (tn' := s.turns) 1 (.int .i64 x) rfl)
            clear hwu ex hneg t0 t1 t2 t3 t4 t5 t6 tf
            obtain ⟨v0, v1, v2, v3, v4, v5, v6, vf⟩ := NU.out.cells
            have g0 := cell_of_below NU.out.below HCC.out.1
            have g1 := cell_of_below NU.out.below HCC.out.2
            have hu1 := HO.out.u1
            have hd1 := HO.out.d1
            have hthr : thr s = if s.up then -fall else rise := by unfold thr; rw [HF.out.1, HF.out.2]
            cases hup : s.up with
            | true =>
              have HUP := hide2 hup
              rw [hup] at NU hthr hu1 hd1
              replace v0 : wu.cell? ⟨w.heap.size + 1, 0, none⟩ = some (.bool true) := hup ▸ v0
              replace hthr : thr s = -fall := hthr
              by_cases htg : x = thr s
              · have HTH := hide2 htg
                have hle : x ≤ -fall := by omega
                clear hup hthr hu1 hd1 htg
                go_quiet (fail)
                obtain ⟨wv, hwv⟩ : ∃ wv, wu.drewN nq = wv := ⟨_, rfl⟩
                rw [hwv]
                have NV : Hid (Nw w wv P true x kk (mm : Int) s.turns true t) := hwv ▸ NU.out.drew nq
                clear hwv
                obtain ⟨v0, v1, v2, v3, v4, v5, v6, vf⟩ := NV.out.cells
                go_wp2_with fail
                go_roundw
                case rel =>
                  refine ⟨k + 1, by have := HK.out; omega, by go_num, ?_⟩
                  have eq1 := run_take (St.new rise fall) L k (by have := HK.out; have := HN.out; omega)
                  rw [HS.out, HP.out] at eq1
                  have pp := probe_parts s true t
                  have rw1 : (s.rowed true) = { s with up := !s.up, row := 0, turns := s.turns + 1 } := by
                    have := HTH.out
                    unfold St.rowed
                    rw [HX.out, if_pos this]
                  rw [rw1, HUP.out] at pp
                  refine (?_ : Nv w _ (runL (St.new rise fall) (L.take (k + 1))))
                  rw [eq1]
                  have NE := ((NV.out.set (u' := false) (r' := x) (k' := kk) (m' := mm) (tn' := s.turns) 0 (.bool false) rfl).set (u' := false) (r' := 0) (k' := kk) (m' := mm) (tn' := s.turns) 1 (.int .i64 0) rfl).set (u' := false) (r' := 0) (k' := kk) (m' := mm) (tn' := s.turns + 1) 4 (.int .i64 (s.turns + 1)) rfl
                  refine ⟨NE.below, ?_, NE.rb⟩
                  rw [NE.nb, pp.1, pp.2.1, pp.2.2.1, pp.2.2.2.1, pp.2.2.2.2, HKM.out.1, HKM.out.2]
                  try rfl
                case measure => simp [intOf]; have := HK.out; omega
              · have HTH := hide2 htg
                have hle : ¬ x ≤ -fall := by have := hu1 rfl; obtain ⟨z1, z2⟩ := HXV.out; have := HF.out.2; obtain ⟨z3, z4, z5, z6⟩ := HT.out; omega
                clear hup hthr hu1 hd1 htg
                go_quiet (fail)
                obtain ⟨wv, hwv⟩ : ∃ wv, wu.drewN nq = wv := ⟨_, rfl⟩
                rw [hwv]
                have NV : Hid (Nw w wv P true x kk (mm : Int) s.turns true t) := hwv ▸ NU.out.drew nq
                clear hwv
                obtain ⟨v0, v1, v2, v3, v4, v5, v6, vf⟩ := NV.out.cells
                go_wp2_with fail
                go_roundw
                case rel =>
                  refine ⟨k + 1, by have := HK.out; omega, by go_num, ?_⟩
                  have eq1 := run_take (St.new rise fall) L k (by have := HK.out; have := HN.out; omega)
                  rw [HS.out, HP.out] at eq1
                  have pp := probe_parts s true t
                  have rw1 : (s.rowed true) = { s with row := x } := by
                    have := HTH.out
                    unfold St.rowed
                    rw [HX.out, if_neg this]
                  rw [rw1, HUP.out] at pp
                  refine (?_ : Nv w _ (runL (St.new rise fall) (L.take (k + 1))))
                  rw [eq1]
                  have NE := NV.out
                  refine ⟨NE.below, ?_, NE.rb⟩
                  rw [NE.nb, pp.1, pp.2.1, pp.2.2.1, pp.2.2.2.1, pp.2.2.2.2, HKM.out.1, HKM.out.2]
                  try rfl
                case measure => simp [intOf]; have := HK.out; omega
            | false =>
              have HUP := hide2 hup
              rw [hup] at NU hthr hu1 hd1
              replace v0 : wu.cell? ⟨w.heap.size + 1, 0, none⟩ = some (.bool false) := hup ▸ v0
              replace hthr : thr s = rise := hthr
              by_cases htg : x = thr s
              · have HTH := hide2 htg
                have hle : rise ≤ x := by omega
                clear hup hthr hu1 hd1 htg
                go_quiet (fail)
                obtain ⟨wv, hwv⟩ : ∃ wv, wu.drewN nq = wv := ⟨_, rfl⟩
                rw [hwv]
                have NV : Hid (Nw w wv P false x kk (mm : Int) s.turns true t) := hwv ▸ NU.out.drew nq
                clear hwv
                obtain ⟨v0, v1, v2, v3, v4, v5, v6, vf⟩ := NV.out.cells
                go_wp2_with fail
                go_roundw
                case rel =>
                  refine ⟨k + 1, by have := HK.out; omega, by go_num, ?_⟩
                  have eq1 := run_take (St.new rise fall) L k (by have := HK.out; have := HN.out; omega)
                  rw [HS.out, HP.out] at eq1
                  have pp := probe_parts s true t
                  have rw1 : (s.rowed true) = { s with up := !s.up, row := 0, turns := s.turns + 1 } := by
                    have := HTH.out
                    unfold St.rowed
                    rw [HX.out, if_pos this]
                  rw [rw1, HUP.out] at pp
                  refine (?_ : Nv w _ (runL (St.new rise fall) (L.take (k + 1))))
                  rw [eq1]
                  have NE := ((NV.out.set (u' := true) (r' := x) (k' := kk) (m' := mm) (tn' := s.turns) 0 (.bool true) rfl).set (u' := true) (r' := 0) (k' := kk) (m' := mm) (tn' := s.turns) 1 (.int .i64 0) rfl).set (u' := true) (r' := 0) (k' := kk) (m' := mm) (tn' := s.turns + 1) 4 (.int .i64 (s.turns + 1)) rfl
                  refine ⟨NE.below, ?_, NE.rb⟩
                  rw [NE.nb, pp.1, pp.2.1, pp.2.2.1, pp.2.2.2.1, pp.2.2.2.2, HKM.out.1, HKM.out.2]
                  try rfl
                case measure => simp [intOf]; have := HK.out; omega
              · have HTH := hide2 htg
                have hle : ¬ rise ≤ x := by have := hd1 rfl; obtain ⟨z1, z2⟩ := HXV.out; have := HF.out.1; obtain ⟨z3, z4, z5, z6⟩ := HT.out; omega
                clear hup hthr hu1 hd1 htg
                go_quiet (fail)
                obtain ⟨wv, hwv⟩ : ∃ wv, wu.drewN nq = wv := ⟨_, rfl⟩
                rw [hwv]
                have NV : Hid (Nw w wv P false x kk (mm : Int) s.turns true t) := hwv ▸ NU.out.drew nq
                clear hwv
                obtain ⟨v0, v1, v2, v3, v4, v5, v6, vf⟩ := NV.out.cells
                go_wp2_with fail
                go_roundw
                case rel =>
                  refine ⟨k + 1, by have := HK.out; omega, by go_num, ?_⟩
                  have eq1 := run_take (St.new rise fall) L k (by have := HK.out; have := HN.out; omega)
                  rw [HS.out, HP.out] at eq1
                  have pp := probe_parts s true t
                  have rw1 : (s.rowed true) = { s with row := x } := by
                    have := HTH.out
                    unfold St.rowed
                    rw [HX.out, if_neg this]
                  rw [rw1, HUP.out] at pp
                  refine (?_ : Nv w _ (runL (St.new rise fall) (L.take (k + 1))))
                  rw [eq1]
                  have NE := NV.out
                  refine ⟨NE.below, ?_, NE.rb⟩
                  rw [NE.nb, pp.1, pp.2.1, pp.2.2.1, pp.2.2.2.1, pp.2.2.2.2, HKM.out.1, HKM.out.2]
                  try rfl
                case measure => simp [intOf]; have := HK.out; omega
          · have ex : (s.row + 1) = x := by rw [← hx]; unfold lng; simp; omega
            clear hx
            have HXV := hide2 (And.intro hneg ex)
            go_upto_region 25 with fail
            obtain ⟨wu, hwu⟩ : ∃ wu, (w'.setCell ⟨w.heap.size + 1, 1, none⟩ (.int .i64 x)) = wu := ⟨_, rfl⟩
            rw [hwu]
            have NU : Hid (Nw w wu P s.up x kk (mm : Int) s.turns true t) := hwu ▸ (NT.out.set (u' := s.up) (r' := x) (k' := kk) (m' := mm) (tn' := s.turns) 1 (.int .i64 x) rfl)
            clear hwu ex hneg t0 t1 t2 t3 t4 t5 t6 tf
            obtain ⟨v0, v1, v2, v3, v4, v5, v6, vf⟩ := NU.out.cells
            have g0 := cell_of_below NU.out.below HCC.out.1
            have g1 := cell_of_below NU.out.below HCC.out.2
            have hu1 := HO.out.u1
            have hd1 := HO.out.d1
            have hthr : thr s = if s.up then -fall else rise := by unfold thr; rw [HF.out.1, HF.out.2]
            cases hup : s.up with
            | true =>
              have HUP := hide2 hup
              rw [hup] at NU hthr hu1 hd1
              replace v0 : wu.cell? ⟨w.heap.size + 1, 0, none⟩ = some (.bool true) := hup ▸ v0
              replace hthr : thr s = -fall := hthr
              by_cases htg : x = thr s
              · have HTH := hide2 htg
                have hle : x ≤ -fall := by omega
                clear hup hthr hu1 hd1 htg
                go_quiet (fail)
                obtain ⟨wv, hwv⟩ : ∃ wv, wu.drewN nq = wv := ⟨_, rfl⟩
                rw [hwv]
                have NV : Hid (Nw w wv P true x kk (mm : Int) s.turns true t) := hwv ▸ NU.out.drew nq
                clear hwv
                obtain ⟨v0, v1, v2, v3, v4, v5, v6, vf⟩ := NV.out.cells
                go_wp2_with fail
                go_roundw
                case rel =>
                  refine ⟨k + 1, by have := HK.out; omega, by go_num, ?_⟩
                  have eq1 := run_take (St.new rise fall) L k (by have := HK.out; have := HN.out; omega)
                  rw [HS.out, HP.out] at eq1
                  have pp := probe_parts s true t
                  have rw1 : (s.rowed true) = { s with up := !s.up, row := 0, turns := s.turns + 1 } := by
                    have := HTH.out
                    unfold St.rowed
                    rw [HX.out, if_pos this]
                  rw [rw1, HUP.out] at pp
                  refine (?_ : Nv w _ (runL (St.new rise fall) (L.take (k + 1))))
                  rw [eq1]
                  have NE := ((NV.out.set (u' := false) (r' := x) (k' := kk) (m' := mm) (tn' := s.turns) 0 (.bool false) rfl).set (u' := false) (r' := 0) (k' := kk) (m' := mm) (tn' := s.turns) 1 (.int .i64 0) rfl).set (u' := false) (r' := 0) (k' := kk) (m' := mm) (tn' := s.turns + 1) 4 (.int .i64 (s.turns + 1)) rfl
                  refine ⟨NE.below, ?_, NE.rb⟩
                  rw [NE.nb, pp.1, pp.2.1, pp.2.2.1, pp.2.2.2.1, pp.2.2.2.2, HKM.out.1, HKM.out.2]
                  try rfl
                case measure => simp [intOf]; have := HK.out; omega
              · have HTH := hide2 htg
                have hle : ¬ x ≤ -fall := by have := hu1 rfl; obtain ⟨z1, z2⟩ := HXV.out; have := HF.out.2; obtain ⟨z3, z4, z5, z6⟩ := HT.out; omega
                clear hup hthr hu1 hd1 htg
                go_quiet (fail)
                obtain ⟨wv, hwv⟩ : ∃ wv, wu.drewN nq = wv := ⟨_, rfl⟩
                rw [hwv]
                have NV : Hid (Nw w wv P true x kk (mm : Int) s.turns true t) := hwv ▸ NU.out.drew nq
                clear hwv
                obtain ⟨v0, v1, v2, v3, v4, v5, v6, vf⟩ := NV.out.cells
                go_wp2_with fail
                go_roundw
                case rel =>
                  refine ⟨k + 1, by have := HK.out; omega, by go_num, ?_⟩
                  have eq1 := run_take (St.new rise fall) L k (by have := HK.out; have := HN.out; omega)
                  rw [HS.out, HP.out] at eq1
                  have pp := probe_parts s true t
                  have rw1 : (s.rowed true) = { s with row := x } := by
                    have := HTH.out
                    unfold St.rowed
                    rw [HX.out, if_neg this]
                  rw [rw1, HUP.out] at pp
                  refine (?_ : Nv w _ (runL (St.new rise fall) (L.take (k + 1))))
                  rw [eq1]
                  have NE := NV.out
                  refine ⟨NE.below, ?_, NE.rb⟩
                  rw [NE.nb, pp.1, pp.2.1, pp.2.2.1, pp.2.2.2.1, pp.2.2.2.2, HKM.out.1, HKM.out.2]
                  try rfl
                case measure => simp [intOf]; have := HK.out; omega
            | false =>
              have HUP := hide2 hup
              rw [hup] at NU hthr hu1 hd1
              replace v0 : wu.cell? ⟨w.heap.size + 1, 0, none⟩ = some (.bool false) := hup ▸ v0
              replace hthr : thr s = rise := hthr
              by_cases htg : x = thr s
              · have HTH := hide2 htg
                have hle : rise ≤ x := by omega
                clear hup hthr hu1 hd1 htg
                go_quiet (fail)
                obtain ⟨wv, hwv⟩ : ∃ wv, wu.drewN nq = wv := ⟨_, rfl⟩
                rw [hwv]
                have NV : Hid (Nw w wv P false x kk (mm : Int) s.turns true t) := hwv ▸ NU.out.drew nq
                clear hwv
                obtain ⟨v0, v1, v2, v3, v4, v5, v6, vf⟩ := NV.out.cells
                go_wp2_with fail
                go_roundw
                case rel =>
                  refine ⟨k + 1, by have := HK.out; omega, by go_num, ?_⟩
                  have eq1 := run_take (St.new rise fall) L k (by have := HK.out; have := HN.out; omega)
                  rw [HS.out, HP.out] at eq1
                  have pp := probe_parts s true t
                  have rw1 : (s.rowed true) = { s with up := !s.up, row := 0, turns := s.turns + 1 } := by
                    have := HTH.out
                    unfold St.rowed
                    rw [HX.out, if_pos this]
                  rw [rw1, HUP.out] at pp
                  refine (?_ : Nv w _ (runL (St.new rise fall) (L.take (k + 1))))
                  rw [eq1]
                  have NE := ((NV.out.set (u' := true) (r' := x) (k' := kk) (m' := mm) (tn' := s.turns) 0 (.bool true) rfl).set (u' := true) (r' := 0) (k' := kk) (m' := mm) (tn' := s.turns) 1 (.int .i64 0) rfl).set (u' := true) (r' := 0) (k' := kk) (m' := mm) (tn' := s.turns + 1) 4 (.int .i64 (s.turns + 1)) rfl
                  refine ⟨NE.below, ?_, NE.rb⟩
                  rw [NE.nb, pp.1, pp.2.1, pp.2.2.1, pp.2.2.2.1, pp.2.2.2.2, HKM.out.1, HKM.out.2]
                  try rfl
                case measure => simp [intOf]; have := HK.out; omega
              · have HTH := hide2 htg
                have hle : ¬ rise ≤ x := by have := hd1 rfl; obtain ⟨z1, z2⟩ := HXV.out; have := HF.out.1; obtain ⟨z3, z4, z5, z6⟩ := HT.out; omega
                clear hup hthr hu1 hd1 htg
                go_quiet (fail)
                obtain ⟨wv, hwv⟩ : ∃ wv, wu.drewN nq = wv := ⟨_, rfl⟩
                rw [hwv]
                have NV : Hid (Nw w wv P false x kk (mm : Int) s.turns true t) := hwv ▸ NU.out.drew nq
                clear hwv
                obtain ⟨v0, v1, v2, v3, v4, v5, v6, vf⟩ := NV.out.cells
                go_wp2_with fail
                go_roundw
                case rel =>
                  refine ⟨k + 1, by have := HK.out; omega, by go_num, ?_⟩
                  have eq1 := run_take (St.new rise fall) L k (by have := HK.out; have := HN.out; omega)
                  rw [HS.out, HP.out] at eq1
                  have pp := probe_parts s true t
                  have rw1 : (s.rowed true) = { s with row := x } := by
                    have := HTH.out
                    unfold St.rowed
                    rw [HX.out, if_neg this]
                  rw [rw1, HUP.out] at pp
                  refine (?_ : Nv w _ (runL (St.new rise fall) (L.take (k + 1))))
                  rw [eq1]
                  have NE := NV.out
                  refine ⟨NE.below, ?_, NE.rb⟩
                  rw [NE.nb, pp.1, pp.2.1, pp.2.2.1, pp.2.2.2.1, pp.2.2.2.2, HKM.out.1, HKM.out.2]
                  try rfl
                case measure => simp [intOf]; have := HK.out; omega
    · obtain rfl : k = n := by omega
      have e0 : L.take k = L := List.take_of_length_le (by have := HN.out; omega)
      rw [e0] at HV
      obtain ⟨s, hs⟩ : ∃ s, runL (St.new rise fall) L = s := ⟨_, rfl⟩
      rw [hs] at HV
      have HS := hide2 hs
      have a := HV.out.nb
      have b := HV.out.rb
      have n0 : wr.cell? ⟨w.heap.size + 1, 0, none⟩ = some (.bool s.up) := by simp [World.cell?, a]; rfl
      have n1 : wr.cell? ⟨w.heap.size + 1, 1, none⟩ = some (.int .i64 s.row) := by simp [World.cell?, a]; rfl
      have n2 : wr.cell? ⟨w.heap.size + 1, 2, none⟩ = some (.float .f64 s.took) := by simp [World.cell?, a]; rfl
      have n3 : wr.cell? ⟨w.heap.size + 1, 3, none⟩ = some (.int .i64 s.timed) := by simp [World.cell?, a]; rfl
      have n4 : wr.cell? ⟨w.heap.size + 1, 4, none⟩ = some (.int .i64 s.turns) := by simp [World.cell?, a]; rfl
      have r0 : wr.cell? ⟨w.heap.size, 0, none⟩ = some (.bool false) := by simp [World.cell?, b]; rfl
      have r1 : wr.cell? ⟨w.heap.size, 1, none⟩ = some (.int .i64 0) := by simp [World.cell?, b]; rfl
      have r2 : wr.cell? ⟨w.heap.size, 2, none⟩ = some (.float .f64 0) := by simp [World.cell?, b]; rfl
      have r3 : wr.cell? ⟨w.heap.size, 3, none⟩ = some (.int .i64 0) := by simp [World.cell?, b]; rfl
      have r4 : wr.cell? ⟨w.heap.size, 4, none⟩ = some (.int .i64 0) := by simp [World.cell?, b]; rfl
      have rf : ∀ o, wr.frozen? ⟨w.heap.size, o, none⟩ = false := fun o => by simp [World.frozen?, b]
      have d2 := cell_of_below HV.out.below c2
      have st := st_float
      clear hs a b b0 c0 c1 c2 e0 hlt hk
      go_wp2_with fail
      obtain ⟨ws, hws⟩ : ∃ ws, (((((wr.setCell ⟨w.heap.size, 0, none⟩ (.bool s.up)).setCell ⟨w.heap.size, 1, none⟩ (.int .i64 s.row)).setCell ⟨w.heap.size, 2, none⟩ (.float .f64 s.took)).setCell ⟨w.heap.size, 3, none⟩ (.int .i64 s.timed)).setCell ⟨w.heap.size, 4, none⟩ (.int .i64 s.turns)) = ws := ⟨_, rfl⟩
      have hb : ws.heap[w.heap.size]? = some (.cells (ncl s.up s.row s.took s.timed s.turns) 61 (0, 0)) := by
        rw [← hws, set_blk (set_blk (set_blk (set_blk (set_blk HV.out.rb 0 _) 1 _) 2 _) 3 _) 4 _]; rfl
      have hS : Stp wr ws [w.heap.size] [w.heap.size] := hws ▸ ((((Stp.set _ 0 _ (by simp)).trans (Stp.set _ 1 _ (by simp))).trans (Stp.set _ 2 _ (by simp))).trans (Stp.set _ 3 _ (by simp))).trans (Stp.set _ 4 _ (by simp))
      have hB : Below w.heap.size w ws := HV.out.below.trans (hS.below (by simp) HV.out.below.size)
      have s0 : ws.cell? ⟨w.heap.size, 0, none⟩ = some (.bool s.up) := by simp [World.cell?, hb]; rfl
      have s1 : ws.cell? ⟨w.heap.size, 1, none⟩ = some (.int .i64 s.row) := by simp [World.cell?, hb]; rfl
      have s2 : ws.cell? ⟨w.heap.size, 2, none⟩ = some (.float .f64 s.took) := by simp [World.cell?, hb]; rfl
      have s3 : ws.cell? ⟨w.heap.size, 3, none⟩ = some (.int .i64 s.timed) := by simp [World.cell?, hb]; rfl
      have s4 : ws.cell? ⟨w.heap.size, 4, none⟩ = some (.int .i64 s.turns) := by simp [World.cell?, hb]; rfl
      rw [hws]
      clear hws
      exact bodyPost_ret (v := .agg #[.bool s.up, .int .i64 s.row, .float .f64 s.took, .int .i64 s.timed, .int .i64 s.turns]) (by simp [results, Try.results31, go_sem, s0, s1, s2, s3, s4]) rfl ⟨⟨s, HS.out.symm, rfl⟩, hB⟩
end Go.Proofs.Ytlgpohjffahbcaa
