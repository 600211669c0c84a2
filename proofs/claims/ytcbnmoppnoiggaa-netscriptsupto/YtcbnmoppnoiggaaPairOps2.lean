/-
  The same call at both: Cut, Pass, Under.
-/
import Derived.Test.YtcbnmoppnoiggaaPairOps
namespace Go.Proofs.Ytcbnmoppnoiggaa
open Go.RowKit
set_option linter.unusedVariables false
set_option linter.unusedSimpArgs false
theorem sz_set {s : St} {D : Nat} (hS : Sz s D) (i : Nat) (r' : Rc) (hr' : ∀ t, (r'.W t).length ≤ D) : ∀ r2 ∈ s.rs.set i r', ∀ t, (r2.W t).length ≤ D := fun r2 hr2 t2 => by
  rcases List.mem_or_eq_of_mem_set hr2 with h' | h'
  · exact hS r2 h' t2
  · rw [h']; exact hr' t2
theorem cut_pair {w : World} {base : Nat} {s : St} (h : Pr w base s) (D : Nat) (hS : Sz s D) (conn : Int) :
    ∃ E : Int, (0 ≤ E ∧ E ≤ 100) ∧ Calls Try.prog 18 #[.pointer (some ⟨s.b, 0, none⟩), .int .i64 conn] w fun e w1 => e = .returned (.int .i64 E) ∧
      Turn w w1 s.own ∧ ∀ wx, Same wx w1 → Calls Try.prog 30 #[.pointer (some ⟨s.b', 0, none⟩), .int .i64 conn] wx fun e w2 => e = .returned (.int .i64 E) ∧ ∃ s', Moved w w2 base s s' ∧ Sz s' D := by
  by_cases hin : 0 ≤ conn ∧ conn < s.cs.length
  · obtain ⟨h1, h2⟩ := hin
    obtain ⟨i, rfl⟩ : ∃ i : Nat, conn = i := ⟨conn.toNat, by omega⟩
    obtain ⟨c, r, hc, hr, T, C⟩ := h.both_at (i := i) (by omega)
    have hWr := hS r (List.mem_of_getElem? hr)
    cases hct : r.ct with
    | true =>
      have hcc : c.ct = true := by have := T.ct; rw [hct] at this; exact this
      refine ⟨40, by decide, (cut_bad (some ⟨s.b, 0, none⟩) i 40 w (h.net.cutbad hc hcc false 0 (by omega)) (by decide)).mono ?_⟩
      rintro e w1 ⟨rfl, rfl⟩
      refine ⟨rfl, Turn.refl _ _, fun wx hx => ?_⟩
      refine (rcut_bad _ i 40 wx ((h.like hx).ref.rcutbad hr hct false) (by decide)).mono ?_
      rintro e w2 ⟨rfl, rfl⟩
      exact ⟨rfl, s, h.stay hx, hS⟩
    | false =>
      obtain ⟨e1, T1⟩ := tie_cut T hct
      refine ⟨(mCut c.m).1, by rw [e1]; decide, (ncut h.net i c hc).mono ?_⟩
      rintro e w1 ⟨rfl, c', hm, Dd⟩
      refine ⟨rfl, own_turn Dd.turn, fun wx hx => ?_⟩
      have Dx := Dd.like hx
      have hR : RNet wx base s.b' s.rc s.rn s.rt s.rs s.ns s.ts := h.ref.far fun k hk => Dx.turn.block k (h.ref.lt k hk).2 (fun hm => h.apart k (List.mem_append.2 (.inl hm)) hk)
      refine (rcut_any base s.b' s.rc s.rn s.rt s.rs s.ns s.ts i r wx hR hr hct).mono ?_
      rintro e w2 ⟨rfl, g⟩
      have TS := tie_set (cs' := []) h.len h.tie i c' { r with ct := true } (by rw [hm]; exact T1)
      exact ⟨by rw [e1], _, h.both Dx (fun hR => hR.change hr g) TS.1 TS.2 rfl rfl, sz_set hS i _ hWr⟩
  · refine ⟨2, by decide, (cut_bad (some ⟨s.b, 0, none⟩) conn 2 w (reach_arg base s.b s.row s.mv s.cs conn 0 0 w h.net (by omega)) (by decide)).mono ?_⟩
    rintro e w1 ⟨rfl, rfl⟩
    refine ⟨rfl, Turn.refl _ _, fun wx hx => ?_⟩
    refine (rcut_bad _ conn 2 wx (rwhy_arg base s.b' s.rc s.rn s.rt s.rs s.ns s.ts conn 0 wx (h.like hx).ref (by rw [← h.len]; omega)) (by decide)).mono ?_
    rintro e w2 ⟨rfl, rfl⟩
    exact ⟨rfl, s, h.stay hx, hS⟩
theorem pass_pair {w : World} {base : Nat} {s : St} (h : Pr w base s) (D : Nat) (hS : Sz s D) (hD : D ≤ 1048576) (conn side most : Int) :
    ∃ K E : Int, (0 ≤ E ∧ E ≤ 100) ∧ Calls Try.prog 15 #[.pointer (some ⟨s.b, 0, none⟩), .int .i64 conn, .int .i64 side, .int .i64 most] w fun e w1 => e = .returned (.tuple #[.int .i64 K, .int .i64 E]) ∧
      Turn w w1 s.own ∧ ∀ wx, Same wx w1 → Calls Try.prog 28 #[.pointer (some ⟨s.b', 0, none⟩), .int .i64 conn, .int .i64 side, .int .i64 most] wx fun e w2 => e = .returned (.tuple #[.int .i64 K, .int .i64 E]) ∧ ∃ s', Moved w w2 base s s' ∧ Sz s' D := by
  by_cases hm : most < 0
  · refine ⟨0, 2, by decide, (pass_bad (some ⟨s.b, 0, none⟩) conn side most 2 w (reach_arg base s.b s.row s.mv s.cs conn side most w h.net (by omega)) (by decide)).mono ?_⟩
    rintro e w1 ⟨rfl, rfl⟩
    refine ⟨rfl, Turn.refl _ _, fun wx hx => ?_⟩
    refine (rpass_arg s.b' conn side most wx hm).mono ?_
    rintro e w2 ⟨rfl, rfl⟩
    exact ⟨rfl, s, h.stay hx, hS⟩
  · by_cases hin : 0 ≤ conn ∧ conn < s.cs.length ∧ 0 ≤ side ∧ side ≤ 1
    · obtain ⟨h1, h2, h3, h4⟩ := hin
      obtain ⟨t, rfl⟩ := side_of h3 h4
      obtain ⟨i, rfl⟩ : ∃ i : Nat, conn = i := ⟨conn.toNat, by omega⟩
      obtain ⟨c, r, hc, hr, T, C⟩ := h.both_at (i := i) (by omega)
      have hWr := hS r (List.mem_of_getElem? hr)
      cases hct : r.ct with
      | true =>
        have hcc : c.ct = true := by have := T.ct; rw [hct] at this; exact this
        refine ⟨0, 40, by decide, (pass_bad (some ⟨s.b, 0, none⟩) i (sI t) most 40 w (h.net.cutbad hc hcc t most (by omega)) (by decide)).mono ?_⟩
        rintro e w1 ⟨rfl, rfl⟩
        refine ⟨rfl, Turn.refl _ _, fun wx hx => ?_⟩
        refine (rpass_bad s.b' i (sI t) most 40 wx (by omega) ((h.like hx).ref.rcutbad hr hct t) (by decide)).mono ?_
        rintro e w2 ⟨rfl, rfl⟩
        exact ⟨rfl, s, h.stay hx, hS⟩
      | false =>
        have hpl := C.pl t
        obtain ⟨kk, hkk⟩ : ∃ kk : Nat, min most ((r.W t).length - r.p t : Int) = kk := ⟨(min most ((r.W t).length - r.p t : Int)).toNat, by omega⟩
        obtain ⟨e1, T1⟩ := tie_pass T hct C.pl C.rl t most (by omega) kk hkk
        have hu := (tie_us T t).2.2
        have hw := hWr t
        refine ⟨kk, 0, by decide, (npass h.net i c hc t most (by omega)).mono ?_⟩
        rintro e w1 ⟨rfl, c', hm', Dd⟩
        refine ⟨by rw [e1], own_turn Dd.turn, fun wx hx => ?_⟩
        have Dx := Dd.like hx
        have hR : RNet wx base s.b' s.rc s.rn s.rt s.rs s.ns s.ts := h.ref.far fun k hk => Dx.turn.block k (h.ref.lt k hk).2 (fun hm => h.apart k (List.mem_append.2 (.inl hm)) hk)
        refine (rpass_any base s.b' s.rc s.rn s.rt s.rs s.ns s.ts i r t most kk wx hR hr hct (by omega) (by omega) hkk).mono ?_
        rintro e w2 ⟨rfl, g⟩
        have TS := tie_set (cs' := []) h.len h.tie i c' (r.passed t kk) (by rw [hm']; exact T1)
        exact ⟨rfl, _, h.both Dx (fun hR => hR.change hr g) TS.1 TS.2 rfl rfl, sz_set hS i _ hWr⟩
    · refine ⟨0, 2, by decide, (pass_bad (some ⟨s.b, 0, none⟩) conn side most 2 w (reach_arg base s.b s.row s.mv s.cs conn side most w h.net (by omega)) (by decide)).mono ?_⟩
      rintro e w1 ⟨rfl, rfl⟩
      refine ⟨rfl, Turn.refl _ _, fun wx hx => ?_⟩
      refine (rpass_bad s.b' conn side most 2 wx (by omega) (rwhy_arg base s.b' s.rc s.rn s.rt s.rs s.ns s.ts conn side wx (h.like hx).ref (by rw [← h.len]; omega)) (by decide)).mono ?_
      rintro e w2 ⟨rfl, rfl⟩
      exact ⟨rfl, s, h.stay hx, hS⟩
theorem under_pair {w : World} {base : Nat} {s : St} (h : Pr w base s) (D : Nat) (hS : Sz s D) (hD : D ≤ 1048576) (conn side : Int) :
    ∃ E : Int, Calls Try.prog 9 #[.pointer (some ⟨s.b, 0, none⟩), .int .i64 conn, .int .i64 side] w (fun e w1 => w1 = w ∧ e = .returned (.int .i64 E)) ∧
      ∀ wx, Same wx w → Calls Try.prog 10 #[.pointer (some ⟨s.b', 0, none⟩), .int .i64 conn, .int .i64 side] wx fun e w2 => e = .returned (.int .i64 E) ∧ Same w2 w := by
  have sameN : ∀ wx q, Same wx w → Same (wx.drewN q) w := fun wx q hx => ⟨hx.os, hx.tape, hx.output, hx.heap⟩
  by_cases hin : 0 ≤ conn ∧ conn < s.cs.length ∧ 0 ≤ side ∧ side ≤ 1
  · obtain ⟨h1, h2, h3, h4⟩ := hin
    obtain ⟨t, rfl⟩ := side_of h3 h4
    obtain ⟨i, rfl⟩ : ∃ i : Nat, conn = i := ⟨conn.toNat, by omega⟩
    obtain ⟨c, r, hc, hr, T, C⟩ := h.both_at (i := i) (by omega)
    have hw := hS r (List.mem_of_getElem? hr) t
    refine ⟨mUnder c.m t, nunder h.net i c hc t, fun wx hx => ?_⟩
    cases hct : r.ct with
    | true =>
      have e0 : mUnder c.m t = 0 := by unfold mUnder; rw [if_pos (by rw [T.ct]; exact hct)]
      rw [e0]
      refine (runder_bad _ i (sI t) 40 wx ((h.like hx).ref.rcutbad hr hct t) (by decide)).mono ?_
      rintro e w2 ⟨rfl, rfl⟩
      exact ⟨rfl, hx⟩
    | false =>
      rw [tie_under T hct t (C.pl t)]
      refine (runder_ok base s.b' s.rc s.rn s.rt s.rs s.ns s.ts i r t wx (h.like hx).ref hr hct (by omega)).mono ?_
      rintro e w2 ⟨rfl, q, rfl⟩
      exact ⟨rfl, sameN wx q hx⟩
  · refine ⟨0, under_bad (some ⟨s.b, 0, none⟩) conn side 2 w (reach_arg base s.b s.row s.mv s.cs conn side 0 w h.net (by omega)) (by decide), fun wx hx => ?_⟩
    refine (runder_bad _ conn side 2 wx (rwhy_arg base s.b' s.rc s.rn s.rt s.rs s.ns s.ts conn side wx (h.like hx).ref (by rw [← h.len]; omega)) (by decide)).mono ?_
    rintro e w2 ⟨rfl, rfl⟩
    exact ⟨rfl, hx⟩
end Go.Proofs.Ytcbnmoppnoiggaa
