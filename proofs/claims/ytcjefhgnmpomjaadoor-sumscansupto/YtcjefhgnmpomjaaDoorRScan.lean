/-
  The contract of the document's own Scan.
-/
import Derived.Test.YtcjefhgnmpomjaaDoorCut
namespace Go.Proofs.YtcjefhgnmpomjaaDoor
open Go.RowKit
set_option linter.unusedVariables false

/-- Of one row of records any beginning is the beginning of all of them. -/
theorem row_all (zs : List Int) : ∀ (k : Nat) (pre xs : List Told), Row1 zs k pre → AllOf zs k xs →
    pre.length ≤ xs.length ∧ pre.map (·.ps) = (xs.map (·.ps)).take pre.length ∧ pre.map (·.behind) = (xs.map (·.behind)).take pre.length ∧ (pre.length = xs.length → lastOf k pre = lastOf k xs) ∧ ((∀ N, ¬ IsRec (zs.drop (lastOf k pre)) N) → pre.length = xs.length)
  | k, [], xs, _, hA => by
    refine ⟨by simp, by simp, by simp, fun h => ?_, fun h => ?_⟩
    · have : xs = [] := List.length_eq_zero_iff.1 (by simpa using h.symm)
      subst this; rfl
    · cases xs with
      | nil => rfl
      | cons x r => obtain ⟨⟨N, hN, _⟩, _⟩ := hA.1; exact absurd hN (h N)
  | k, p :: pr, xs, hR, hA => by
    obtain ⟨⟨N, hN, hb, hp⟩, hR'⟩ := hR
    cases xs with
    | nil => exact absurd hN (hA.2 N)
    | cons x r =>
      obtain ⟨⟨⟨N', hN', hb', hp'⟩, hA1⟩, hA2⟩ := hA
      obtain rfl := hN.same hN'
      have e1 : p.behind = x.behind := by rw [hb, hb']
      have e2 : p.ps = x.ps := by rw [hp, hp']
      have ih := row_all zs x.behind pr r (by rw [← e1]; exact hR') ⟨hA1, hA2⟩
      refine ⟨by simp; exact ih.1, by simp [e2, ih.2.1], by simp [e1, ih.2.2.1], fun h => ?_, fun h => ?_⟩
      · simp only [lastOf, e1]; exact ih.2.2.2.1 (by simpa using h)
      · have := ih.2.2.2.2 (by simpa only [lastOf, e1] using h)
        simp [this]

/-- What ref.Scan has gathered. -/
structure RGath (w : World) (W : World) (xs : List Told) (gs : List Sl) (v4 v5 : Value) : Prop where
  out : W.ownsRow w.heap.size 22 1 v4 gs.length (gs.map Sl.val)
  places : W.ownsRow w.heap.size 3 1 v5 gs.length (ivals (xs.map fun x => (x.behind : Int)))
  own : ∀ s ∈ gs, W.ownsRow w.heap.size 5 1 s.val s.n (vals s.zs) ∧ Octets s.zs ∧ s.n ≤ 131072
  same : gs.map (·.zs) = xs.map (·.ps)
  below : Below w.heap.size w W
theorem RGath.later {w W W' : World} {xs : List Told} {gs : List Sl} {v4 v5 : Value} (h : RGath w W xs gs v4 v5) (hb : Below W.heap.size W W') : RGath w W' xs gs v4 v5 :=
  ⟨own_belowV h.out hb (Nat.le_refl _), own_belowV h.places hb (Nat.le_refl _), fun s hs => ⟨own_belowV (h.own s hs).1 hb (Nat.le_refl _), (h.own s hs).2⟩, h.same, h.below.trans (hb.mono h.below.size)⟩
theorem rs_a {w w2 w3 : World} {xs : List Told} {G : List Sl} {v4 v5 : Value} {s : Sl} {o : Obj} (h : RGath w w2 xs G v4 v5) (hs : Hid (w2.ownsRow w.heap.size 5 1 s.val s.n (vals s.zs) ∧ Octets s.zs ∧ s.n ≤ 131072)) (hg : (w2.alloc o).grownBy w3 v4.ownBlock) :
    Hid (w3.ownsRow w.heap.size 3 1 v5 G.length (ivals (xs.map fun x => (x.behind : Int)))) ∧ Hid (∀ t ∈ G ++ [s], w3.ownsRow w.heap.size 5 1 t.val t.n (vals t.zs) ∧ Octets t.zs ∧ t.n ≤ 131072) ∧ Below w.heap.size w w3 := by
  refine ⟨(h.places.alloc o).kept hg (rows_ne h.places h.out (by decide)), fun t ht => ?_, (h.below.alloc h.below.size _).grown hg (by have := h.below.size; simp; omega) (fun k e => (h.out.lt k e).1)⟩
  have ht' : w2.ownsRow w.heap.size 5 1 t.val t.n (vals t.zs) ∧ Octets t.zs ∧ t.n ≤ 131072 := by
    rcases List.mem_append.1 ht with h1 | h1
    · exact h.own t h1
    · obtain rfl := List.mem_singleton.1 h1; exact hs.out
  exact ⟨(ht'.1.alloc o).kept hg (rows_ne ht'.1 h.out (by decide)), ht'.2⟩
theorem rs_b {w w3 w4 : World} {G : List Sl} {v4 v5 : Value} {n4 n5 : Nat} {x4 x5 : List Value} {o : Obj} (h4 : w3.ownsRow w.heap.size 22 1 v4 n4 x4) (h5 : Hid (w3.ownsRow w.heap.size 3 1 v5 n5 x5)) (hG : Hid (∀ t ∈ G, w3.ownsRow w.heap.size 5 1 t.val t.n (vals t.zs) ∧ Octets t.zs ∧ t.n ≤ 131072)) (hb : Below w.heap.size w w3) (hg : (w3.alloc o).grownBy w4 v5.ownBlock) :
    Hid (w4.ownsRow w.heap.size 22 1 v4 n4 x4) ∧ Hid (∀ t ∈ G, w4.ownsRow w.heap.size 5 1 t.val t.n (vals t.zs) ∧ Octets t.zs ∧ t.n ≤ 131072) ∧ Below w.heap.size w w4 :=
  ⟨(h4.alloc o).kept hg (rows_ne h4 h5.out (by decide)), fun t ht => ⟨((hG.out t ht).1.alloc o).kept hg (rows_ne (hG.out t ht).1 h5.out (by decide)), (hG.out t ht).2⟩, (hb.alloc hb.size _).grown hg (by have := hb.size; simp; omega) (fun k e => (h5.out.lt k e).1)⟩
theorem rs_snoc {w W : World} {xs : List Told} {x : Told} {G : List Sl} {s : Sl} {v4 v5 : Value} {z : Int} (hsame : G.map (·.zs) = xs.map (·.ps)) (hsx : s.zs = x.ps) (h4 : Hid (W.ownsRow w.heap.size 22 1 v4 (G.length + 1) (G.map Sl.val ++ [s.val])))
    (h5 : W.ownsRow w.heap.size 3 1 v5 (G.length + 1) (ivals (xs.map fun x => (x.behind : Int)) ++ [.int .i64 z])) (hz : z = x.behind) (hG : Hid (∀ t ∈ G ++ [s], W.ownsRow w.heap.size 5 1 t.val t.n (vals t.zs) ∧ Octets t.zs ∧ t.n ≤ 131072)) (hb : Below w.heap.size w W) : RGath w W (xs ++ [x]) (G ++ [s]) v4 v5 := by
  refine ⟨?_, ?_, hG.out, by simp [hsame, hsx], hb⟩
  · rw [List.length_append, List.map_append]; exact h4.out
  · rw [List.length_append, List.map_append]
    unfold ivals at h5 ⊢
    rw [List.map_append]
    subst hz
    simpa using h5

set_option maxHeartbeats 2000000 in
theorem rscan_long (b off n cap : Nat) (zs : List Int) (w : World) (hP : Bs w (some ⟨b, off, none⟩) n cap zs) (hl : n ≤ 1099511627776) :
    Calls Tryd.prog 18 #[.slice (some ⟨b, off, none⟩) n cap] w fun e w' => ∃ xs gs v4 v5, AllOf zs 0 xs ∧ e = .returned (.tuple #[v4, v5]) ∧ RGath w w' xs gs v4 v5 := by
  obtain ⟨i22, hi22, hz220, hz221, hz222⟩ := info_parts Tryd.info22
  obtain ⟨i3, hi3, hz30, hz31, hz32⟩ := info_parts Tryd.info3
  have hzl := hP.len
  have hcap := hP.fits
  have hmax := hP.cap
  unfold maxLen at hmax
  go_enter Tryd.func18, Tryd.ntmps18
  go_wp2
  go_loopw [4, 5, 6] (fun v4 v5 t wr => ∃ (xs : List Told) (gs : List Sl) (k : Nat), t = .int .i64 k ∧ k ≤ n ∧ gs.length ≤ k ∧ Row1 zs 0 xs ∧ lastOf 0 xs = k ∧ RGath w wr xs gs v4 v5) (fun _ _ t _ => n - (intOf t).toNat)
  case atStart => exact ⟨[], [], 0, rfl, by omega, by simp, trivial, rfl, World.ownsRow_nil _ _ _ _, World.ownsRow_nil _ _ _ _, (fun s hs => by cases hs), rfl, Below.refl _ _⟩
  case round =>
    obtain ⟨xs, gs, k, rfl, hk, hgl, hrow, hlast, hG⟩ := hrel
    have k0 : (0 : Int) ≤ k := by omega
    have k1 : (k : Int) ≤ n := by omega
    by_cases hkn : cap = k
    · obtain rfl : n = k := by omega
      subst hkn
      go_wp2_with fail
      refine (rnext_short _ 0 0 _ (by decide)).mono ?_
      rintro e w1 ⟨rfl, hw1⟩
      subst hw1
      go_wp2
      go_ret2
      exact ⟨xs, gs, _, _, ⟨hrow, fun N h => by have := h.1; rw [hlast] at this; simp at this; omega⟩, rfl, hG⟩
    · have hkl : k < cap := by omega
      have PB := hP.below hG.below
      have hmid : Bs wr (some ⟨b, off + k, none⟩) (n - k) (cap - k) (zs.drop k) := by
        refine ⟨by simp; omega, ?_, PB.oct.drop k, (fun h => by cases h), by omega, by unfold maxLen; omega, by omega⟩
        have := has_mid PB.has k (n - k) (by omega)
        rwa [List.take_of_length_le (by simp; omega)] at this
      have k2 : (k : Int) ≤ cap := by omega
      have k3 : ¬ (k : Int) = cap := by omega
      go_wp2_with fail
      refine (rnext_any (some ⟨b, off + k, none⟩) (n - k) (cap - k) (zs.drop k) _ hmid).mono ?_
      rintro e w2 ⟨hb2, hN2⟩
      have hG2 := hG.later hb2
      rcases hN2 with ⟨hno, rfl⟩ | ⟨N, aq, cq, hrec, rfl, hHq, hOq⟩
      · go_wp2
        go_ret2
        exact ⟨xs, gs, _, _, ⟨hrow, by rw [hlast]; exact hno⟩, rfl, hG2⟩
      · have hN2 : k + (8 + N) ≤ n := by have h1 := hrec.2.2.2.1; have h2 := hrec.1; simp at h1 h2; omega
        have hN3 : N ≤ 131072 := hrec.2.2.1
        obtain ⟨ps, hps⟩ : ∃ ps, ((zs.drop k).drop 8).take N = ps := ⟨_, rfl⟩
        rw [hps] at hOq
        have HX : Hid (Row1 zs 0 (xs ++ [⟨k + (8 + N), 0, ps⟩])) := Row1_snoc zs 0 xs _ hrow ⟨N, by rw [hlast]; exact hrec, by rw [hlast], by rw [hlast]; exact hps.symm⟩
        have HLs : Hid (lastOf 0 (xs ++ [⟨k + (8 + N), 0, ps⟩]) = k + (8 + N)) := lastOf_snoc _ _ _
        have HS : Hid (w2.ownsRow w.heap.size 5 1 (Sl.mk aq N cq ps).val (Sl.mk aq N cq ps).n (vals (Sl.mk aq N cq ps).zs) ∧ Octets (Sl.mk aq N cq ps).zs ∧ (Sl.mk aq N cq ps).n ≤ 131072) :=
          ⟨own_base hOq hG.below.size, by show Octets ps; rw [← hps]; exact ((PB.oct.drop k).drop 8).take N, hN3⟩
        have hsame := hG.same
        clear hrow hlast hrec hps hHq hOq hG hb2 hmid PB
        go_wp2_with (first
          | (at_builtin; refine wpList_append_form _ rfl (.tmp 25) (.tmp 27) 35 rfl w.heap.size 22 i22 (.slice none 0 0) 1 24 Tryd.underlying35 hi22 hz220 hz221 hz222 rfl (by decide) u4 gs.length (gs.map Sl.val) rfl (hG2.out.alloc _) ⟨w2.heap.size, 0, none⟩ 1 1 [(Sl.mk aq N cq ps).val] rfl rfl (cell_one_new _ _ _) (by intro u hu; simp at hu; subst hu; rfl) (by omega) (by unfold maxLen; omega) (by omega) (by have := hG2.below.size; simp; omega) ?_; intro g6 c6 w4 hown4 hgrow4; obtain ⟨o5, oG, hb4⟩ := rs_a hG2 HS hgrow4; clear hgrow4 hG2 HS)
          | (at_builtin; refine wpList_append_form _ rfl (.tmp 29) (.tmp 31) 36 rfl w.heap.size 3 i3 (.int .i64 0) 1 8 Tryd.underlying36 hi3 hz30 hz31 hz32 rfl (by decide) u5 gs.length (ivals (xs.map fun x => (x.behind : Int))) rfl (o5.out.alloc _) ⟨w4.heap.size, 0, none⟩ 1 1 [.int .i64 ((k : Int) + (8 + (N : Int)))] rfl rfl (cell_one_new _ _ _) (by intro u hu; simp at hu; subst hu; rfl) (by omega) (by unfold maxLen; omega) (by omega) (by have := hb4.size; simp; omega) ?_; intro g7 c7 w5 hown5 hgrow5; obtain ⟨o4', oG', hb5⟩ := rs_b hown4 o5 oG hb4 hgrow5; clear hgrow5 hown4))
        go_roundw
        case rel => exact ⟨xs ++ [⟨k + (8 + N), 0, ps⟩], gs ++ [⟨aq, N, cq, ps⟩], k + (8 + N), by go_num, hN2, by simp; omega, HX.out, HLs.out, rs_snoc hsame rfl o4' hown5 (by show _ = ((k + (8 + N) : Nat) : Int); omega) oG' hb5⟩
        case measure => simp [intOf]; omega

set_option maxHeartbeats 1000000 in
theorem rscan_short (a : Option Addr) (n cap : Nat) (zs : List Int) (w : World) (hn : zs.length = n) (hl : n < 8) (hc : n ≤ cap) (hm : cap ≤ maxLen) :
    Calls Tryd.prog 18 #[.slice a n cap] w fun e w' => ∃ xs gs v4 v5, AllOf zs 0 xs ∧ e = .returned (.tuple #[v4, v5]) ∧ RGath w w' xs gs v4 v5 := by
  unfold maxLen at hm
  have n0 : (0 : Int) ≤ n := by omega
  have n1 : (n : Int) ≤ cap := by omega
  go_enter Tryd.func18, Tryd.ntmps18
  go_wp2
  refine wp_loop_rounds 1 ?_
  rw [rounds_succ]
  rcases a with _ | x
  · go_wp2_with fail
    refine (rnext_short _ n _ _ hl).mono ?_
    rintro e w1 ⟨rfl, hw1⟩
    subst hw1
    go_wp2
    go_ret2
    exact ⟨[], [], _, _, ⟨trivial, fun N h => by have := h.1; simp [lastOf] at this; omega⟩, rfl, World.ownsRow_nil _ _ _ _, World.ownsRow_nil _ _ _ _, (fun s hs => by cases hs), rfl, Below.refl _ _⟩
  · go_wp2_with fail
    refine (rnext_short _ n _ _ hl).mono ?_
    rintro e w1 ⟨rfl, hw1⟩
    subst hw1
    go_wp2
    go_ret2
    exact ⟨[], [], _, _, ⟨trivial, fun N h => by have := h.1; simp [lastOf] at this; omega⟩, rfl, World.ownsRow_nil _ _ _ _, World.ownsRow_nil _ _ _ _, (fun s hs => by cases hs), rfl, Below.refl _ _⟩

theorem rscan_any (a : Option Addr) (n cap : Nat) (zs : List Int) (w : World) (hP : Bs w a n cap zs) (hl : n ≤ 1099511627776) :
    Calls Tryd.prog 18 #[.slice a n cap] w fun e w' => ∃ xs gs v4 v5, AllOf zs 0 xs ∧ e = .returned (.tuple #[v4, v5]) ∧ RGath w w' xs gs v4 v5 := by
  by_cases h8 : n < 8
  · exact rscan_short a n cap zs w hP.len h8 hP.fits hP.cap
  · have hl' := hP.len
    rcases hP.has with ⟨_, h0⟩ | ⟨x, hx, hB⟩
    · rw [h0] at hl'; simp at hl'; omega
    obtain ⟨b, off, hxe, hc⟩ := ints_at (k := .u8) hB (by omega)
    subst hxe
    subst hx
    exact rscan_long b off n cap zs w hP hl
end Go.Proofs.YtcjefhgnmpomjaaDoor
