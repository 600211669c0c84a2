/-
  The same call at both: Accept, Read, Dial.
-/
import Derived.Test.YtcbnmoppnoiggaaPairOps2
namespace Go.Proofs.Ytcbnmoppnoiggaa
open Go.RowKit
set_option linter.unusedVariables false
set_option linter.unusedSimpArgs false
theorem first_ok {α : Type} (P : α → Prop) : ∀ l : List α, (∀ x ∈ l, ¬ P x) ∨ ∃ (i : Nat) (x : α), l[i]? = some x ∧ P x ∧ ∀ (j : Nat) y, j < i → l[j]? = some y → ¬ P y
  | [] => .inl fun x h => by cases h
  | a :: l => by
    rcases Classical.em (P a) with h | h
    · exact .inr ⟨0, a, rfl, h, fun j y hj => by omega⟩
    · rcases first_ok P l with h2 | ⟨i, x, h1, h2, h3⟩
      · exact .inl fun x hx => by
          rcases List.mem_cons.1 hx with rfl | hx
          · exact h
          · exact h2 x hx
      · refine .inr ⟨i + 1, x, by simpa using h1, h2, fun j y hj hy => ?_⟩
        cases j with
        | zero => simp at hy; subst hy; exact h
        | succ j => exact h3 j y (by omega) (by simpa using hy)
theorem tie_ok {c : Cn} {r : Rc} (T : Tie c.m r) (nm : ByteArray) : c.ok nm ↔ r.ok nm := by
  cases hct : r.ct with
  | true =>
    have hw : c.wt = false := T.cut hct
    constructor
    · intro h; have := h.1; rw [hw] at this; cases this
    · intro h; have := h.2.1; rw [hct] at this; cases this
  | false =>
    have hw : c.wt = r.wt := T.wt hct
    have hn : c.nm = r.nm := T.nm hct
    unfold Cn.ok Rc.ok
    rw [hw, hn, hct]
    simp
theorem tie_accept {m : Md} {r : Rc} (T : Tie m r) : Tie { m with wt := false } { r with wt := false } :=
  ⟨T.ct, T.nm, fun _ => rfl, T.us, T.ar, T.cl, T.to, T.en, fun _ => rfl, T.z⟩
theorem accept_pair {w : World} {base : Nat} {s : St} (h : Pr w base s) (D : Nat) (hS : Sz s D) (nm : ByteArray) :
    ∃ (K : Int) (q : Bool), Calls Try.prog 24 #[.pointer (some ⟨s.b, 0, none⟩), .string nm] w fun e w1 => e = .returned (.tuple #[.int .i64 K, .bool q]) ∧
      Turn w w1 s.own ∧ ∀ wx, Same wx w1 → Calls Try.prog 25 #[.pointer (some ⟨s.b', 0, none⟩), .string nm] wx fun e w2 => e = .returned (.tuple #[.int .i64 K, .bool q]) ∧ ∃ s', Moved w w2 base s s' ∧ Sz s' D := by
  have back : ∀ (j : Nat) r, s.rs[j]? = some r → ∃ c, s.cs[j]? = some c ∧ Tie c.m r := fun j r hr => by
    have hj : j < s.cs.length := by rw [h.len]; exact (List.getElem?_eq_some_iff.1 hr).1
    exact ⟨_, List.getElem?_eq_getElem hj, h.tie j _ r (List.getElem?_eq_getElem hj) hr⟩
  rcases first_ok (fun c : Cn => c.ok nm) s.cs with hno | ⟨i, c, hc, hok, hfirst⟩
  · refine ⟨0, false, (accept_no base s.b s.row s.mv s.cs nm w h.net hno).mono ?_⟩
    rintro e w1 ⟨rfl, rfl⟩
    refine ⟨rfl, Turn.refl _ _, fun wx hx => ?_⟩
    refine (raccept_no base s.b' s.rc s.rn s.rt s.rs s.ns s.ts nm wx (h.like hx).ref (fun r hr => ?_)).mono ?_
    · obtain ⟨j, hj⟩ := List.getElem?_of_mem hr
      obtain ⟨c, hc, T⟩ := back j r hj
      exact fun hr => hno c (List.mem_of_getElem? hc) ((tie_ok T nm).2 hr)
    · rintro e w2 ⟨rfl, rfl⟩
      exact ⟨rfl, s, h.stay hx, hS⟩
  · obtain ⟨c', r, hc', hr, T, C⟩ := h.both_at (i := i) (List.getElem?_eq_some_iff.1 hc).1
    rw [hc] at hc'
    cases hc'
    refine ⟨i, true, (accept_yes base s.b s.row s.mv s.cs nm i c w h.net hc hok hfirst).mono ?_⟩
    rintro e w1 ⟨rfl, g⟩
    refine ⟨rfl, own_turn (Dialed.chg h.net hc g).turn, fun wx hx => ?_⟩
    have Dx := (Dialed.chg h.net hc g).like hx
    have hR : RNet wx base s.b' s.rc s.rn s.rt s.rs s.ns s.ts := h.ref.far fun k hk => Dx.turn.block k (h.ref.lt k hk).2 (fun hm => h.apart k (List.mem_append.2 (.inl hm)) hk)
    refine (raccept_yes base s.b' s.rc s.rn s.rt s.rs s.ns s.ts nm i r wx hR hr ((tie_ok T nm).1 hok) (fun j r' hj hr' hrok => ?_)).mono ?_
    · obtain ⟨c2, hc2, T2⟩ := back j r' hr'
      exact hfirst j c2 hj hc2 ((tie_ok T2 nm).2 hrok)
    · rintro e w2 ⟨rfl, g2⟩
      have TS := tie_set (cs' := []) h.len h.tie i { c with wt := false } { r with wt := false } (tie_accept T)
      exact ⟨rfl, _, h.both Dx (fun hR => hR.change hr g2) TS.1 TS.2 rfl rfl, sz_set hS i _ (hS r (List.mem_of_getElem? hr))⟩
theorem read_pair {w : World} {base : Nat} {s : St} (h : Pr w base s) (D : Nat) (hS : Sz s D) (hD : D ≤ 1048576) (conn side : Int) :
    ∃ (E : Int) (q : Bool) (zs : List Int), (0 ≤ E ∧ E ≤ 100) ∧ zs.length ≤ D ∧ Calls Try.prog 16 #[.pointer (some ⟨s.b, 0, none⟩), .int .i64 conn, .int .i64 side] w fun e w1 => ∃ av cv, e = .returned (.tuple #[.slice av zs.length cv, .bool q, .int .i64 E]) ∧
      Turn w w1 s.own ∧ ∀ wx, Same wx w1 → Calls Try.prog 29 #[.pointer (some ⟨s.b', 0, none⟩), .int .i64 conn, .int .i64 side] wx fun e w2 => ∃ av' cv', e = .returned (.tuple #[.slice av' zs.length cv', .bool q, .int .i64 E]) ∧ Has w2 av zs ∧ Has w2 av' zs ∧ ∃ s', Moved w w2 base s s' ∧ Sz s' D := by
  by_cases hin : 0 ≤ conn ∧ conn < s.cs.length ∧ 0 ≤ side ∧ side ≤ 1
  · obtain ⟨h1, h2, h3, h4⟩ := hin
    obtain ⟨t, rfl⟩ := side_of h3 h4
    obtain ⟨i, rfl⟩ : ∃ i : Nat, conn = i := ⟨conn.toNat, by omega⟩
    obtain ⟨c, r, hc, hr, T, C⟩ := h.both_at (i := i) (by omega)
    have hWr := hS r (List.mem_of_getElem? hr)
    cases hct : r.ct with
    | true =>
      have hcc : c.ct = true := by have := T.ct; rw [hct] at this; exact this
      refine ⟨40, false, [], by decide, by simp, (read_bad (some ⟨s.b, 0, none⟩) i (sI t) 40 w (h.net.cutbad hc hcc t 0 (by omega)) (by decide)).mono ?_⟩
      rintro e w1 ⟨rfl, rfl⟩
      refine ⟨none, 0, rfl, Turn.refl _ _, fun wx hx => ?_⟩
      refine (rread_bad _ i (sI t) 40 wx ((h.like hx).ref.rcutbad hr hct t) (by decide)).mono ?_
      rintro e w2 ⟨rfl, rfl⟩
      exact ⟨none, 0, rfl, has_nil _ _, has_nil _ _, s, h.stay hx, hS⟩
    | false =>
      obtain ⟨e1, T1⟩ := tie_read T hct t
      have hw := hWr (!t)
      refine ⟨0, r.en (!t), ((r.W (!t)).take (r.p (!t))).drop (r.r (!t)), by decide, by simp; omega, (nread h.net i c hc t).mono ?_⟩
      rintro e w1 ⟨v, rfl, c', hm, Dd, G⟩
      rw [e1] at G
      obtain ⟨av, cv, hv, _, hh, _⟩ := G.buf.form
      subst hv
      refine ⟨av, cv, by rw [e1], own_turn Dd.turn, fun wx hx => ?_⟩
      have Dx := Dd.like hx
      have hR : RNet wx base s.b' s.rc s.rn s.rt s.rs s.ns s.ts := h.ref.far fun k hk => Dx.turn.block k (h.ref.lt k hk).2 (fun hm => h.apart k (List.mem_append.2 (.inl hm)) hk)
      refine (rread_any base s.b' s.rc s.rn s.rt s.rs s.ns s.ts i r t wx hR hr hct (by omega)).mono ?_
      rintro e w2 ⟨v2, rfl, g, B2, _⟩
      obtain ⟨av2, cv2, hv2, _, hh2, _⟩ := B2.form
      subst hv2
      have S := hR.change hr g
      have GB : Buf w2 base (.slice av (((r.W (!t)).take (r.p (!t))).drop (r.r (!t))).length cv) (((r.W (!t)).take (r.p (!t))).drop (r.r (!t))) := G.buf.keep fun k hk => by
        have hkb := (G.out k hk).1
        exact (S.turn.block k (by rw [hx.heap]; exact (G.buf.low hk).2) (fun hm => h.apart k (List.mem_append.2 (.inl hkb)) hm)).trans (by rw [hx.heap])
      obtain ⟨_, _, e', _, hh3, _⟩ := GB.form
      cases e'
      have TS := tie_set (cs' := []) h.len h.tie i c' { r with r := upd r.r (!t) (r.p (!t)) } (by rw [hm]; exact T1)
      exact ⟨av2, cv2, rfl, hh3, hh2, _, h.both Dx (fun hR => hR.change hr g) TS.1 TS.2 rfl rfl, sz_set hS i _ hWr⟩
  · refine ⟨2, false, [], by decide, by simp, (read_bad (some ⟨s.b, 0, none⟩) conn side 2 w (reach_arg base s.b s.row s.mv s.cs conn side 0 w h.net (by omega)) (by decide)).mono ?_⟩
    rintro e w1 ⟨rfl, rfl⟩
    refine ⟨none, 0, rfl, Turn.refl _ _, fun wx hx => ?_⟩
    refine (rread_bad _ conn side 2 wx (rwhy_arg base s.b' s.rc s.rn s.rt s.rs s.ns s.ts conn side wx (h.like hx).ref (by rw [← h.len]; omega)) (by decide)).mono ?_
    rintro e w2 ⟨rfl, rfl⟩
    exact ⟨none, 0, rfl, has_nil _ _, has_nil _ _, s, h.stay hx, hS⟩
end Go.Proofs.Ytcbnmoppnoiggaa
