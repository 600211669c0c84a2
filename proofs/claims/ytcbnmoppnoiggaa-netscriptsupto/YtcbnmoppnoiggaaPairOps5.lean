/-
  The same call at both: Dial, Write.
-/
import Derived.Test.YtcbnmoppnoiggaaPairOps4
namespace Go.Proofs.Ytcbnmoppnoiggaa
open Go.RowKit
set_option linter.unusedVariables false
set_option linter.unusedSimpArgs false
theorem count_nonneg : ∀ (ns : List ByteArray) (ts : List Int) (nm : ByteArray), (∀ t ∈ ts, 0 ≤ t ∧ t ≤ 9223372036854775807) → 0 ≤ count ns ts nm ∧ count ns ts nm ≤ 9223372036854775807
  | [], _, _, _ => by simp [count]
  | a :: ns, [], _, _ => by simp [count]
  | a :: ns, u :: ts, nm, h => by
    simp only [count]
    split
    · exact h u (by simp)
    · exact count_nonneg ns ts nm (fun t ht => h t (by simp [ht]))
theorem Moved.after {w0 w w2 : World} {base : Nat} {s s' : St} (hB : Below w0.heap.size w0 w) (h : Moved w w2 base s s') : Moved w0 w2 base s s' :=
  ⟨h.pr, ⟨h.turn.os.trans hB.os, h.turn.tape.trans hB.tape, h.turn.output.trans hB.output, Nat.le_trans hB.size h.turn.size, fun k hk hn => (h.turn.block k (Nat.lt_of_lt_of_le hk hB.size) hn).trans (hB.block k hk)⟩, fun k hk => (h.sub k hk).imp id (fun h' => Nat.le_trans hB.size h'), h.eb, h.eb', h.bnd, h.nsl⟩
theorem Pr.below {w0 w : World} {base : Nat} {s : St} (h : Pr w0 base s) (hB : Below w0.heap.size w0 w) : Pr w base s := h.far fun k hk => hB.block k (hk.elim (fun h' => (h.lt.1 k h').2) (fun h' => (h.lt.2 k h').2))
theorem Pr.rest {w0 w : World} {base : Nat} {s : St} (h : Pr w0 base s) (hB : Below w0.heap.size w0 w) : Moved w0 w base s s :=
  ⟨h.below hB, ⟨hB.os, hB.tape, hB.output, hB.size, fun k hk _ => hB.block k hk⟩, fun _ h => .inl h, rfl, rfl, Nat.le_succ _, Nat.le_succ _⟩
theorem get_app {α : Type} (l : List α) (x : α) (j : Nat) (y : α) (h : (l ++ [x])[j]? = some y) : l[j]? = some y ∨ (j = l.length ∧ y = x) := by
  by_cases hj : j < l.length
  · rw [List.getElem?_append_left hj] at h; exact .inl h
  · have hlt := (List.getElem?_eq_some_iff.1 h).1
    simp at hlt
    have e : j = l.length := by omega
    subst e
    simp at h
    exact .inr ⟨rfl, h.symm⟩
theorem dial_pair {w : World} {base : Nat} {s : St} (h : Pr w base s) (D : Nat) (hS : Sz s D) (nm : ByteArray) (hs : nm.size ≤ maxLen) (hb : s.bound < 1000000000) (hns : s.ns.length ≤ 1000000000) :
    ∃ K E : Int, (0 ≤ E ∧ E ≤ 100) ∧ Calls Try.prog 13 #[.pointer (some ⟨s.b, 0, none⟩), .string nm] w fun e w1 => e = .returned (.tuple #[.int .i64 K, .int .i64 E]) ∧
      Turn w w1 s.own ∧ ∀ wx, Same wx w1 → Calls Try.prog 23 #[.pointer (some ⟨s.b', 0, none⟩), .string nm] wx fun e w2 => e = .returned (.tuple #[.int .i64 K, .int .i64 E]) ∧ ∃ s', Moved w w2 base s s' ∧ Sz s' D := by
  have hcp := count_nonneg s.ns s.ts nm h.pos
  rw [← h.cnt nm] at hcp
  by_cases hf : s.cs.length < 4096
  · by_cases hp : 0 < s.f nm
    · refine ⟨-1, 41, by decide, (dial_ref base s.b s.row s.mv s.cs s.f s.bound nm w h.net h.map hs hb hf hp hcp.2).mono ?_⟩
      rintro e w1 ⟨rfl, mv', L⟩
      refine ⟨rfl, L.turn, fun wx hx => ?_⟩
      have Lx : Left w wx base s.b s.row s.mv s.cs mv' (fupd s.f nm (s.f nm - 1)) (s.bound + 1) :=
        ⟨L.net.far fun _ _ => by rw [hx.heap], L.map.far fun _ _ => by rw [hx.heap], ⟨hx.os.trans L.turn.os, hx.tape.trans L.turn.tape, hx.output.trans L.turn.output, by rw [hx.heap]; exact L.turn.size, by rw [hx.heap]; exact L.turn.block⟩, L.sub⟩
      have hR : RNet wx base s.b' s.rc s.rn s.rt s.rs s.ns s.ts := h.ref.far fun k hk => Lx.turn.block k (h.ref.lt k hk).2 (fun hm => h.apart k hm hk)
      rcases first_ok (fun x : ByteArray => x = nm) s.ns with hno | ⟨i, x, hi, rfl, hfirst⟩
      · have := count_none nm s.ns s.ts hno
        rw [← h.cnt nm] at this
        omega
      · have hil := (List.getElem?_eq_some_iff.1 hi).1
        have hit : i < s.ts.length := by rw [← h.nlen]; exact hil
        have ht := List.getElem?_eq_getElem hit
        have hca := count_at x s.ns s.ts i _ hi ht hfirst
        rw [← h.cnt x] at hca
        refine (rdial_ref base s.b' s.rc s.rn s.rt s.rs s.ns s.ts x i (s.f x) wx hR (by rw [← h.len]; exact hf) h.nlen (by omega) hi (by rw [hca]; exact ht) hp hcp.2 hfirst).mono ?_
        rintro e w2 ⟨rfl, S⟩
        refine ⟨rfl, _, h.counts Lx (fun _ => S) (by simp [h.nlen]) h.nod (fun y => ?_) ?_ (Nat.le_refl _) (Nat.le_succ _), hS⟩
        · rw [count_set x _ s.ns s.ts i h.nlen hi hfirst y]
          unfold fupd
          rw [h.cnt y]
        · intro u hu
          rcases List.mem_or_eq_of_mem_set hu with h' | h'
          · exact h.pos u h'
          · subst h'; omega
    · have hf0 : s.f nm = 0 := by omega
      obtain ⟨m, hm⟩ := h.map.shape
      have hlook := h.map.look nm hs
      rw [hf0, hm] at hlook
      have hN := h.net
      rw [hm] at hN
      refine ⟨s.cs.length, 0, by decide, (dial_ok base s.b s.row m s.cs nm w hN hf hlook).mono ?_⟩
      rintro e w1 ⟨rfl, k, row', Dd⟩
      rw [← hm] at Dd
      refine ⟨rfl, own_turn Dd.turn, fun wx hx => ?_⟩
      have Dx := Dd.like hx
      have hR : RNet wx base s.b' s.rc s.rn s.rt s.rs s.ns s.ts := h.ref.far fun k hk => Dx.turn.block k (h.ref.lt k hk).2 (fun hm => h.apart k (List.mem_append.2 (.inl hm)) hk)
      refine (rdial_ok base s.b' s.rc s.rn s.rt s.rs s.ns s.ts nm wx hR (by rw [← h.len]; exact hf) h.nlen (by omega) (fun j x t hj ht => ?_)).mono ?_
      · by_cases hx' : x = nm
        · subst hx'
          have hca := count_at x s.ns s.ts j t hj ht (fun j' y hj' hy e => by
            subst e
            have l1 := (List.getElem?_eq_some_iff.1 hy)
            have l2 := (List.getElem?_eq_some_iff.1 hj)
            obtain ⟨a1, b1⟩ := l1
            obtain ⟨a2, b2⟩ := l2
            exact List.pairwise_iff_getElem.1 h.nod j' j a1 a2 hj' (b1.trans b2.symm))
          rw [← h.cnt x] at hca
          exact .inr (by omega)
        · exact .inl hx'
      · rintro e w2 ⟨rfl, rc', k', S⟩
        refine ⟨by rw [h.len], _, h.both Dx (fun _ => S) (by simp [h.len]) (fun j c r hc hr => ?_) rfl rfl, fun r hr t => ?_⟩
        · rcases get_app _ _ _ _ hc with hc | ⟨ej, rfl⟩
          · rcases get_app _ _ _ _ hr with hr | ⟨ej', rfl⟩
            · exact h.tie j c r hc hr
            · have := (List.getElem?_eq_some_iff.1 hc).1
              rw [ej', h.len] at this; omega
          · rcases get_app _ _ _ _ hr with hr | ⟨ej', rfl⟩
            · have := (List.getElem?_eq_some_iff.1 hr).1
              rw [ej, h.len] at this; omega
            · exact tie_fresh k k' nm
        · rcases List.mem_append.1 hr with hr | hr
          · exact hS r hr t
          · simp at hr; subst hr; exact Nat.zero_le _
  · refine ⟨-1, 3, by decide, (dial_full base s.b s.row s.mv s.cs nm w h.net hf).mono ?_⟩
    rintro e w1 ⟨rfl, rfl⟩
    refine ⟨rfl, Turn.refl _ _, fun wx hx => ?_⟩
    refine (rdial_full base s.b' s.rc s.rn s.rt s.rs s.ns s.ts nm wx (h.like hx).ref (by rw [← h.len]; exact hf)).mono ?_
    rintro e w2 ⟨rfl, rfl⟩
    exact ⟨rfl, s, h.stay hx, hS⟩
/-- Write: the bytes that were handed to the one are written over ahead of the other's call -/
theorem write_pair {w0 w : World} {base : Nat} {s : St} (h : Pr w0 base s) (hB : Below w0.heap.size w0 w) (D : Nat) (hS : Sz s D) (conn side : Int) (ai : Option Addr) (gc : Nat) (gl : List Nat) (m : Nat) (ps : List Int) (hg : ∀ g ∈ gl, w0.heap.size ≤ g ∧ g < w.heap.size) (hl : ps.length = m) (hbi : ai = none → gc = 0) (hp : Has w ai ps) (ho : Octets ps) (hD : D + m ≤ 1048576) (ao : Option Addr) (cp : Nat) (hb : ao = none → cp = 0) (hp0 : ∀ W, Below base w0 W → Has W ao ps) :
    ∃ E : Int, (0 ≤ E ∧ E ≤ 100) ∧ Calls Try.prog 14 #[.pointer (some ⟨s.b, 0, none⟩), .int .i64 conn, .int .i64 side, .slice ai m gc] w fun e w1 => e = .returned (.int .i64 E) ∧ Turn w w1 s.own ∧
      ∀ wx, Turn w1 wx gl → Calls Try.prog 26 #[.pointer (some ⟨s.b', 0, none⟩), .int .i64 conn, .int .i64 side, .slice ao m cp] wx fun e w2 => e = .returned (.int .i64 E) ∧ Turn wx w2 s.own' ∧ ∃ s', Moved w0 w2 base s s' ∧ Sz s' (D + m) := by
  have hS' : Sz s (D + m) := fun r hr t => Nat.le_trans (hS r hr t) (Nat.le_add_right _ _)
  have hw := h.below hB
  have lt := h.lt
  have bel : ∀ wx, Turn w wx gl → Below w0.heap.size w0 wx := fun wx ht => hB.trans ⟨ht.os, ht.tape, ht.output, ht.size, fun k hk => ht.block k (Nat.lt_of_lt_of_le hk hB.size) (fun hm => by have := hg k hm; omega)⟩
  by_cases hin : 0 ≤ conn ∧ conn < s.cs.length ∧ 0 ≤ side ∧ side ≤ 1
  · obtain ⟨h1, h2, h3, h4⟩ := hin
    obtain ⟨t, rfl⟩ := side_of h3 h4
    obtain ⟨i, rfl⟩ : ∃ i : Nat, conn = i := ⟨conn.toNat, by omega⟩
    obtain ⟨c, r, hc, hr, T, C⟩ := h.both_at (i := i) (by omega)
    have hWr := hS r (List.mem_of_getElem? hr)
    cases hct : r.ct with
    | true =>
      have hcc : c.ct = true := by have := T.ct; rw [hct] at this; exact this
      refine ⟨40, by decide, (write_bad (some ⟨s.b, 0, none⟩) i (sI t) 40 _ m gc w (writer_bad _ _ _ _ _ w (hw.net.cutbad hc hcc t m (by omega)) (by decide)) (by decide)).mono ?_⟩
      rintro e w1 ⟨rfl, rfl⟩
      refine ⟨rfl, Turn.refl _ _, fun wx hx => ?_⟩
      have hbx := bel wx hx
      refine (rwrite_bad _ i (sI t) 40 ao m cp wx ((h.below hbx).ref.rcutbad hr hct t) (by decide)).mono ?_
      rintro e w2 ⟨rfl, rfl⟩
      exact ⟨rfl, Turn.refl _ _, s, h.rest hbx, hS'⟩
    | false =>
      obtain ⟨e1, e2, e3⟩ := tie_write T hct C.pl C.rl t ps
      have hu := (tie_us T t).1
      have hwt := hWr t
      have hcw : w.heap.size = w.heap.size := rfl
      refine ⟨rwrite r t ps.length, by unfold rwrite; split; exact (by decide); split <;> decide, (nwrite hw.net i c hc t ai m gc ps hl hbi hp ho (by omega)).mono ?_⟩
      rintro e w1 ⟨rfl, c', hm, Dd⟩
      refine ⟨by rw [e1], Dd.turn.mono (fun k hk => .inl (List.mem_append.2 (.inl hk))), fun wx hx => ?_⟩
      have ne : ∀ k ∈ blocks s.b s.row (s.cs.set i c'), k ∉ gl := fun k hk e => by
        have := hg k e
        rcases Dd.sub k hk with h' | h'
        · have := (lt.1 k (List.mem_append.2 (.inl h'))).2; omega
        · omega
      have Dx : Dialed w0 wx base s.b s.row s.mv s.cs s.row s.mv (s.cs.set i c') :=
        ⟨Dd.net.far fun k hk => hx.block k (Dd.net.lt k hk).2 (ne k hk),
          ⟨hx.os.trans (Dd.turn.os.trans hB.os), hx.tape.trans (Dd.turn.tape.trans hB.tape), hx.output.trans (Dd.turn.output.trans hB.output), Nat.le_trans hB.size (Nat.le_trans Dd.turn.size hx.size), fun k hk hn => by
            have hk1 := Nat.lt_of_lt_of_le hk hB.size
            exact (hx.block k (Nat.lt_of_lt_of_le hk1 Dd.turn.size) (fun hm => by have := hg k hm; omega)).trans ((Dd.turn.block k hk1 hn).trans (hB.block k hk))⟩,
          fun k hk => (Dd.sub k hk).imp id (fun h' => Nat.le_trans hB.size h')⟩
      have hR : RNet wx base s.b' s.rc s.rn s.rt s.rs s.ns s.ts := h.ref.far fun k hk => Dx.turn.block k (h.ref.lt k hk).2 (fun hm => h.apart k (List.mem_append.2 (.inl hm)) hk)
      by_cases hE : rwrite r t m = 0
      · have hbs : base ≤ w0.heap.size := by have := lt.1 s.b (List.mem_append.2 (.inl (by simp [blocks]))); omega
        have hpx : Has wx ao ps := hp0 wx ⟨Dx.turn.os, Dx.turn.tape, Dx.turn.output, Dx.turn.size, fun k hk => Dx.turn.block k (Nat.lt_of_lt_of_le hk hbs) (fun hm => by have := (lt.1 k (List.mem_append.2 (.inl hm))).1; omega)⟩
        refine (rwrite_yes base s.b' s.rc s.rn s.rt s.rs s.ns s.ts i r t ao m cp ps wx hR hr hct (by omega) hE hl hb hpx ho).mono ?_
        rintro e w2 ⟨rfl, v', gch⟩
        have T3 := e3 v' (by rw [hl]; exact hE)
        have TS := tie_set (cs' := []) h.len h.tie i c' { r with vw := upd r.vw t v', W := upd r.W t (r.W t ++ ps) } (by rw [hm]; exact T3)
        refine ⟨by rw [hl, hE], (hR.change hr gch).turn, _, h.both Dx (fun hR => hR.change hr gch) TS.1 TS.2 rfl rfl, sz_set hS' i _ (fun t2 => ?_)⟩
        by_cases et : t2 = t
        · subst et
          simp [upd, hl]
          omega
        · have := hWr t2
          simp [upd, et]
          omega
      · refine (rwrite_no base s.b' s.rc s.rn s.rt s.rs s.ns s.ts i r t ao m cp wx hR hr hct (by omega) hE).mono ?_
        rintro e w2 ⟨rfl, q, rfl⟩
        have hm0 : c'.m = c.m := hm.trans (e2 (by rw [hl]; exact hE))
        refine ⟨by rw [hl], ⟨rfl, rfl, rfl, Nat.le_refl _, fun _ _ _ => rfl⟩, _, h.both Dx (fun hR => ⟨hR.far fun _ _ => rfl, ⟨rfl, rfl, rfl, Nat.le_refl _, fun _ _ _ => rfl⟩, fun _ h => .inl h⟩) (by simpa using h.len) (fun j c2 r2 hc2 hr2 => ?_) rfl rfl, hS'⟩
        rw [List.getElem?_set] at hc2
        by_cases e : i = j
        · subst e
          rw [if_pos rfl] at hc2
          rw [hr] at hr2
          cases hr2
          split at hc2
          · cases hc2; rw [hm0]; exact T
          · cases hc2
        · rw [if_neg e] at hc2
          exact h.tie j c2 r2 hc2 hr2
  · refine ⟨2, by decide, (write_bad (some ⟨s.b, 0, none⟩) conn side 2 _ m gc w (writer_bad _ _ _ _ _ w (reach_arg base s.b s.row s.mv s.cs conn side m w hw.net (by omega)) (by decide)) (by decide)).mono ?_⟩
    rintro e w1 ⟨rfl, rfl⟩
    refine ⟨rfl, Turn.refl _ _, fun wx hx => ?_⟩
    have hbx := bel wx hx
    refine (rwrite_bad _ conn side 2 ao m cp wx (rwhy_arg base s.b' s.rc s.rn s.rt s.rs s.ns s.ts conn side wx (h.below hbx).ref (by rw [← h.len]; omega)) (by decide)).mono ?_
    rintro e w2 ⟨rfl, rfl⟩
    exact ⟨rfl, Turn.refl _ _, s, h.rest hbx, hS'⟩
end Go.Proofs.Ytcbnmoppnoiggaa
