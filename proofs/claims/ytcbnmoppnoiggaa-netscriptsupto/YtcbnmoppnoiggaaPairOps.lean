/-
  The same call at both: Close, Under.
-/
import Derived.Test.YtcbnmoppnoiggaaPair
namespace Go.Proofs.Ytcbnmoppnoiggaa
open Go.RowKit
set_option linter.unusedVariables false
set_option linter.unusedSimpArgs false
theorem Same.refl (w : World) : Same w w := ⟨rfl, rfl, rfl, rfl⟩
theorem Dialed.like {w w1 wx : World} {base b : Nat} {row mv row1 mv1 : Value} {cs cs1 : List Cn} (h : Dialed w w1 base b row mv cs row1 mv1 cs1) (e : Same wx w1) : Dialed w wx base b row mv cs row1 mv1 cs1 :=
  ⟨h.net.far fun _ _ => by rw [e.heap], ⟨e.os.trans h.turn.os, e.tape.trans h.turn.tape, e.output.trans h.turn.output, by rw [e.heap]; exact h.turn.size, by rw [e.heap]; exact h.turn.block⟩, h.sub⟩
theorem Pr.like {w wx : World} {base : Nat} {s : St} (h : Pr w base s) (e : Same wx w) : Pr wx base s := h.far fun _ _ => by rw [e.heap]
theorem Pr.stay {w wx : World} {base : Nat} {s : St} (h : Pr w base s) (e : Same wx w) : Moved w wx base s s :=
  ⟨h.like e, ⟨e.os, e.tape, e.output, by rw [e.heap]; exact Nat.le_refl _, fun _ _ _ => by rw [e.heap]⟩, fun _ h => .inl h, rfl, rfl, Nat.le_succ _, Nat.le_succ _⟩
theorem own_turn {w w1 : World} {s : St} (h : Turn w w1 (blocks s.b s.row s.cs)) : Turn w w1 s.own := h.mono (fun k hk => .inl (List.mem_append.2 (.inl hk)))
theorem side_of {side : Int} (h0 : 0 ≤ side) (h1 : side ≤ 1) : ∃ s : Bool, side = sI s := by
  by_cases h : side = 0
  · exact ⟨false, h⟩
  · exact ⟨true, by show side = 1; omega⟩
/-- The sizes: all that a side ever wrote. -/
def Sz (s : St) (D : Nat) : Prop := ∀ r ∈ s.rs, ∀ t, (r.W t).length ≤ D
theorem Pr.both_at {w : World} {base : Nat} {s : St} (h : Pr w base s) {i : Nat} (hi : i < s.cs.length) : ∃ c r, s.cs[i]? = some c ∧ s.rs[i]? = some r ∧ Tie c.m r ∧ RCon w base r := by
  have hi' : i < s.rs.length := by rw [← h.len]; exact hi
  exact ⟨_, _, List.getElem?_eq_getElem hi, List.getElem?_eq_getElem hi', h.tie i _ _ (List.getElem?_eq_getElem hi) (List.getElem?_eq_getElem hi'), h.ref.con _ (List.getElem_mem hi')⟩
theorem tie_us {c : Cn} {r : Rc} (T : Tie c.m r) (t : Bool) : (c.sd t).us.length ≤ (r.W t).length ∧ (c.sd (!t)).ar.length ≤ (r.W t).length ∧ (c.sd t).us.length + (c.sd (!t)).ar.length ≤ (r.W t).length + (r.W t).length := by
  rw [← m_us, ← m_ar]
  cases hct : r.ct with
  | true => rw [(T.z hct t).1, (T.z hct (!t)).2]; simp
  | false => rw [T.us hct t, T.ar hct t]; simp; omega
theorem tie_set {s : St} {cs' : List Cn} (hlen : s.cs.length = s.rs.length) (ht : ∀ (i : Nat) c r, s.cs[i]? = some c → s.rs[i]? = some r → Tie c.m r) (i : Nat) (c' : Cn) (r' : Rc) (h : Tie c'.m r') :
    (s.cs.set i c').length = (s.rs.set i r').length ∧ ∀ (j : Nat) c r, (s.cs.set i c')[j]? = some c → (s.rs.set i r')[j]? = some r → Tie c.m r := by
  refine ⟨by simpa using hlen, fun j c r hc hr => ?_⟩
  rw [List.getElem?_set] at hc hr
  by_cases e : i = j
  · subst e
    rw [if_pos rfl] at hc hr
    split at hc
    · split at hr
      · cases hc; cases hr; exact h
      · cases hr
    · cases hc
  · rw [if_neg e] at hc hr
    exact ht j c r hc hr
theorem close_pair {w : World} {base : Nat} {s : St} (h : Pr w base s) (D : Nat) (hS : Sz s D) (hD : D ≤ 1048576) (conn side : Int) :
    ∃ E : Int, (0 ≤ E ∧ E ≤ 100) ∧ Calls Try.prog 17 #[.pointer (some ⟨s.b, 0, none⟩), .int .i64 conn, .int .i64 side] w fun e w1 => e = .returned (.int .i64 E) ∧
      Turn w w1 s.own ∧ ∀ wx, Same wx w1 → Calls Try.prog 27 #[.pointer (some ⟨s.b', 0, none⟩), .int .i64 conn, .int .i64 side] wx fun e w2 => e = .returned (.int .i64 E) ∧ ∃ s', Moved w w2 base s s' ∧ Sz s' D := by
  by_cases hin : 0 ≤ conn ∧ conn < s.cs.length ∧ 0 ≤ side ∧ side ≤ 1
  · obtain ⟨h1, h2, h3, h4⟩ := hin
    obtain ⟨t, rfl⟩ := side_of h3 h4
    obtain ⟨i, rfl⟩ : ∃ i : Nat, conn = i := ⟨conn.toNat, by omega⟩
    obtain ⟨c, r, hc, hr, T, C⟩ := h.both_at (i := i) (by omega)
    have hWr := hS r (List.mem_of_getElem? hr)
    cases hct : r.ct with
    | true =>
      have hcc : c.ct = true := by have := T.ct; rw [hct] at this; exact this
      refine ⟨40, by decide, (close_bad (some ⟨s.b, 0, none⟩) i (sI t) 40 w (writer_bad _ _ _ _ _ w (h.net.cutbad hc hcc t 0 (by omega)) (by decide)) (by decide)).mono ?_⟩
      rintro e w1 ⟨rfl, rfl⟩
      refine ⟨rfl, Turn.refl _ _, fun wx hx => ?_⟩
      refine (rclose_bad _ i (sI t) 40 wx ((h.like hx).ref.rcutbad hr hct t) (by decide)).mono ?_
      rintro e w2 ⟨rfl, rfl⟩
      exact ⟨rfl, s, h.stay hx, hS⟩
    | false =>
      obtain ⟨e1, T1⟩ := tie_close T hct t
      have hu := (tie_us T t).1
      have := hWr t
      refine ⟨(mClose c.m t).1, by rw [e1]; split <;> decide, (nclose h.net i c hc t (by omega)).mono ?_⟩
      rintro e w1 ⟨rfl, c', hm, Dd⟩
      refine ⟨rfl, own_turn Dd.turn, fun wx hx => ?_⟩
      have Dx := Dd.like hx
      have hR : RNet wx base s.b' s.rc s.rn s.rt s.rs s.ns s.ts := h.ref.far fun k hk => Dx.turn.block k (h.ref.lt k hk).2 (fun hm => h.apart k (List.mem_append.2 (.inl hm)) hk)
      refine (rclose_any base s.b' s.rc s.rn s.rt s.rs s.ns s.ts i r t wx hR hr hct).mono ?_
      rintro e w2 ⟨rfl, g⟩
      refine ⟨by rw [e1], _, h.both Dx (fun hR => hR.change hr g) (tie_set (cs' := []) h.len h.tie i c' _ (by rw [hm]; exact T1)).1 (tie_set (cs' := []) h.len h.tie i c' _ (by rw [hm]; exact T1)).2 rfl rfl, ?_⟩
      intro r2 hr2 t2
      rcases List.mem_or_eq_of_mem_set hr2 with h' | h'
      · exact hS r2 h' t2
      · rw [h']; exact hWr t2
  · refine ⟨2, by decide, (close_bad (some ⟨s.b, 0, none⟩) conn side 2 w (writer_bad _ _ _ _ _ w (reach_arg base s.b s.row s.mv s.cs conn side 0 w h.net (by omega)) (by decide)) (by decide)).mono ?_⟩
    rintro e w1 ⟨rfl, rfl⟩
    refine ⟨rfl, Turn.refl _ _, fun wx hx => ?_⟩
    refine (rclose_bad _ conn side 2 wx (rwhy_arg base s.b' s.rc s.rn s.rt s.rs s.ns s.ts conn side wx (h.like hx).ref (by rw [← h.len]; omega)) (by decide)).mono ?_
    rintro e w2 ⟨rfl, rfl⟩
    exact ⟨rfl, s, h.stay hx, hS⟩
end Go.Proofs.Ytcbnmoppnoiggaa
