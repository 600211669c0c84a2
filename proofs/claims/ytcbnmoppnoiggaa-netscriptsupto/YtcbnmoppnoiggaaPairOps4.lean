/-
  The same call at both: Refuse, Dial.
-/
import Derived.Test.YtcbnmoppnoiggaaPairOps3
namespace Go.Proofs.Ytcbnmoppnoiggaa
open Go.RowKit
set_option linter.unusedVariables false
set_option linter.unusedSimpArgs false
theorem count_set (nm : ByteArray) (t : Int) : ∀ (ns : List ByteArray) (ts : List Int) (i : Nat), ns.length = ts.length → ns[i]? = some nm → (∀ (j : Nat) x, j < i → ns[j]? = some x → ¬ x = nm) → ∀ x, count ns (ts.set i t) x = if x = nm then t else count ns ts x
  | [], _, i, _, hi, _, _ => by simp at hi
  | a :: ns, [], i, hl, _, _, _ => by simp at hl
  | a :: ns, u :: ts, 0, hl, hi, _, x => by
    simp at hi
    subst hi
    show count (a :: ns) (t :: ts) x = _
    simp only [count]
    by_cases e : x = a
    · subst e; simp
    · have e' : ¬ a = x := fun h => e h.symm
      simp [e, e']
  | a :: ns, u :: ts, i + 1, hl, hi, hf, x => by
    have ha : ¬ a = nm := hf 0 a (by omega) rfl
    have ih := count_set nm t ns ts i (by simpa using hl) (by simpa using hi) (fun j y hj hy => hf (j + 1) y (by omega) (by simpa using hy)) x
    show count (a :: ns) (u :: ts.set i t) x = _
    simp only [count]
    rw [ih]
    by_cases e : a = x
    · subst e; simp [ha]
    · simp [e]
theorem count_app (nm : ByteArray) (t : Int) : ∀ (ns : List ByteArray) (ts : List Int), ns.length = ts.length → (∀ x ∈ ns, ¬ x = nm) → ∀ x, count (ns ++ [nm]) (ts ++ [t]) x = if x = nm then t else count ns ts x
  | [], [], _, _, x => by
    simp only [count, List.nil_append]
    by_cases e : x = nm
    · subst e; simp
    · have e' : ¬ nm = x := fun h => e h.symm
      simp [e, e']
  | [], u :: ts, hl, _, _ => by simp at hl
  | a :: ns, [], hl, _, _ => by simp at hl
  | a :: ns, u :: ts, hl, hf, x => by
    have ih := count_app nm t ns ts (by simpa using hl) (fun y hy => hf y (by simp [hy])) x
    have ha : ¬ a = nm := hf a (by simp)
    simp only [List.cons_append, count]
    rw [ih]
    by_cases e : a = x
    · subst e; simp [ha]
    · simp [e]
theorem count_at (nm : ByteArray) : ∀ (ns : List ByteArray) (ts : List Int) (i : Nat) (t : Int), ns[i]? = some nm → ts[i]? = some t → (∀ (j : Nat) x, j < i → ns[j]? = some x → ¬ x = nm) → count ns ts nm = t
  | [], _, i, t, hi, _, _ => by simp at hi
  | a :: ns, [], i, t, _, ht, _ => by simp at ht
  | a :: ns, u :: ts, 0, t, hi, ht, _ => by simp at hi ht; subst hi; subst ht; simp [count]
  | a :: ns, u :: ts, i + 1, t, hi, ht, hf => by
    have ha : ¬ a = nm := hf 0 a (by omega) rfl
    simp only [count, ha, if_false]
    exact count_at nm ns ts i t (by simpa using hi) (by simpa using ht) (fun j y hj hy => hf (j + 1) y (by omega) (by simpa using hy))
theorem count_none (nm : ByteArray) : ∀ (ns : List ByteArray) (ts : List Int), (∀ x ∈ ns, ¬ x = nm) → count ns ts nm = 0
  | [], _, _ => by simp [count]
  | a :: ns, [], _ => by simp [count]
  | a :: ns, u :: ts, hf => by
    simp only [count, hf a (by simp), if_false]
    exact count_none nm ns ts (fun y hy => hf y (by simp [hy]))
/-- The counts changed at both. -/
theorem Pr.counts {w w1 w2 : World} {base : Nat} {s : St} (h : Pr w base s) {mv' rn' rt' : Value} {f' : ByteArray → Int} {n' : Nat} {ns' : List ByteArray} {ts' : List Int}
    (L : Left w w1 base s.b s.row s.mv s.cs mv' f' n') (R : RNet w1 base s.b' s.rc s.rn s.rt s.rs s.ns s.ts → RStep w1 w2 base s.b' s.rc s.rn s.rt s.rs s.ns s.ts s.rc rn' rt' s.rs ns' ts')
    (hl : ns'.length = ts'.length) (hn : ns'.Nodup) (hc : ∀ nm, f' nm = count ns' ts' nm) (hp : ∀ t ∈ ts', 0 ≤ t ∧ t ≤ 9223372036854775807) (hbn : n' ≤ s.bound + 1) (hnl : ns'.length ≤ s.ns.length + 1) :
    Moved w w2 base s { s with mv := mv', f := f', bound := n', rn := rn', rt := rt', ns := ns', ts := ts' } := by
  have lt := h.lt
  have ap := h.apart
  have r1 : RNet w1 base s.b' s.rc s.rn s.rt s.rs s.ns s.ts := h.ref.far fun k hk => L.turn.block k (h.ref.lt k hk).2 (fun hm => ap k hm hk)
  have S := R r1
  have own1 : ∀ k, k ∈ blocks s.b s.row s.cs ++ mblk mv' → k ∉ s.own' := fun k hk hm => by
    rcases List.mem_append.1 hk with hk | hk
    · exact ap k (List.mem_append.2 (.inl hk)) hm
    · rcases L.sub k hk with h' | h'
      · exact ap k (List.mem_append.2 (.inr h')) hm
      · have := (lt.2 k hm).2; omega
  have lt1 : ∀ k, k ∈ blocks s.b s.row s.cs ++ mblk mv' → k < w1.heap.size := fun k hk => (List.mem_append.1 hk).elim (fun h' => (L.net.lt k h').2) (fun h' => (L.map.lt k h').2)
  refine ⟨⟨L.net.far fun k hk => S.turn.block k (L.net.lt k hk).2 (own1 k (List.mem_append.2 (.inl hk))), L.map.far fun k hk => S.turn.block k (L.map.lt k hk).2 (own1 k (List.mem_append.2 (.inr hk))), S.net, h.len, h.tie, hl, hn, hc, hp, ?_⟩, ?_, ?_, rfl, rfl, hbn, hnl⟩
  · intro k hk hm
    rcases S.sub k hm with hm' | hm'
    · exact own1 k hk hm'
    · have := lt1 k hk; omega
  · exact (L.turn.mono (fun k hk => .inl (List.mem_append.2 (.inl hk)))).trans S.turn (fun k hk => .inl (List.mem_append.2 (.inr hk)))
  · intro k hk
    rcases List.mem_append.1 hk with hk | hk
    · rcases List.mem_append.1 hk with hk | hk
      · exact .inl (List.mem_append.2 (.inl (List.mem_append.2 (.inl hk))))
      · rcases L.sub k hk with h' | h'
        · exact .inl (List.mem_append.2 (.inl (List.mem_append.2 (.inr h'))))
        · exact .inr h'
    · rcases S.sub k hk with h' | h'
      · exact .inl (List.mem_append.2 (.inr h'))
      · exact .inr (Nat.le_trans L.turn.size h')
theorem refuse_pair {w : World} {base : Nat} {s : St} (h : Pr w base s) (D : Nat) (hS : Sz s D) (nm : ByteArray) (t : Int) (hs : nm.size ≤ maxLen) (hb : s.bound < 1000000000) (hns : s.ns.length ≤ 1000000000) (htw : (Lit.int .i64 t).wf = true) (htm : t ≤ 9223372036854775807) :
    ∃ E : Int, (0 ≤ E ∧ E ≤ 100) ∧ Calls Try.prog 21 #[.pointer (some ⟨s.b, 0, none⟩), .string nm, .int .i64 t] w fun e w1 => e = .returned (.int .i64 E) ∧
      Turn w w1 s.own ∧ ∀ wx, Same wx w1 → Calls Try.prog 22 #[.pointer (some ⟨s.b', 0, none⟩), .string nm, .int .i64 t] wx fun e w2 => e = .returned (.int .i64 E) ∧ ∃ s', Moved w w2 base s s' ∧ Sz s' D ∧ s'.bound ≤ s.bound + 1 ∧ s'.ns.length ≤ s.ns.length + 1 := by
  by_cases ht : t < 0
  · refine ⟨2, by decide, (refuse_arg s.b nm t w ht).mono ?_⟩
    rintro e w1 ⟨rfl, rfl⟩
    refine ⟨rfl, Turn.refl _ _, fun wx hx => ?_⟩
    refine (rrefuse_arg s.b' nm t wx ht).mono ?_
    rintro e w2 ⟨rfl, rfl⟩
    exact ⟨rfl, s, h.stay hx, hS, by omega, by omega⟩
  · refine ⟨0, by decide, (refuse_ok base s.b s.row s.mv s.cs s.f s.bound nm t w h.net h.map hs hb (by omega) htw).mono ?_⟩
    rintro e w1 ⟨rfl, mv', L⟩
    refine ⟨rfl, L.turn, fun wx hx => ?_⟩
    have Lx : Left w wx base s.b s.row s.mv s.cs mv' (fupd s.f nm t) (s.bound + 1) :=
      ⟨L.net.far fun _ _ => by rw [hx.heap], L.map.far fun _ _ => by rw [hx.heap], ⟨hx.os.trans L.turn.os, hx.tape.trans L.turn.tape, hx.output.trans L.turn.output, by rw [hx.heap]; exact L.turn.size, by rw [hx.heap]; exact L.turn.block⟩, L.sub⟩
    have hR : RNet wx base s.b' s.rc s.rn s.rt s.rs s.ns s.ts := h.ref.far fun k hk => Lx.turn.block k (h.ref.lt k hk).2 (fun hm => h.apart k hm hk)
    rcases first_ok (fun x : ByteArray => x = nm) s.ns with hno | ⟨i, x, hi, rfl, hfirst⟩
    · refine (rrefuse_new base s.b' s.rc s.rn s.rt s.rs s.ns s.ts nm t wx hR h.nlen (by omega) (by omega) hno).mono ?_
      rintro e w2 ⟨rfl, rn', rt', S⟩
      refine ⟨rfl, _, h.counts Lx (fun _ => S) (by simp [h.nlen]) ?_ (fun x => ?_) ?_ (Nat.le_refl _) (by simp), hS, by simp, by simp⟩
      · rw [List.nodup_append]
        exact ⟨h.nod, by simp, fun a ha b hb e => by simp at hb; exact hno a ha (e.trans hb)⟩
      · rw [count_app nm t s.ns s.ts h.nlen hno x]
        unfold fupd
        rw [h.cnt x]
      · intro u hu
        rcases List.mem_append.1 hu with hu | hu
        · exact h.pos u hu
        · simp at hu; subst hu; omega
    · refine (rrefuse_old base s.b' s.rc s.rn s.rt s.rs s.ns s.ts x t i wx hR h.nlen (by omega) (by omega) hi hfirst).mono ?_
      rintro e w2 ⟨rfl, S⟩
      refine ⟨rfl, _, h.counts Lx (fun _ => S) (by simp [h.nlen]) h.nod (fun y => ?_) ?_ (Nat.le_refl _) (by simp), hS, by simp, by simp⟩
      · rw [count_set x t s.ns s.ts i h.nlen hi hfirst y]
        unfold fupd
        rw [h.cnt y]
      · intro u hu
        rcases List.mem_or_eq_of_mem_set hu with h' | h'
        · exact h.pos u h'
        · subst h'; omega
end Go.Proofs.Ytcbnmoppnoiggaa
