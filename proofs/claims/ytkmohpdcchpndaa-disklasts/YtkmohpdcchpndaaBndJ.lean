import Derived.Test.YtkmohpdcchpndaaBndH
import Derived.Deep.DeepCutAuto
import Derived.Test.YtkmohpdcchpndaaOpen
/-
  What was synced lasts: the disk as the document has it.
-/
namespace Go.Proofs.Ytkmohpdcchpndaa
open Go.RowKit
set_option linter.unusedVariables false
set_option linter.unusedSimpArgs false
set_option maxRecDepth 100000
theorem drel_one {od : Option (DataW Unit)} {g g' : Dir'} (h : DRel od g) (h' : DRel od g') : g = g' := by
  funext nm
  cases hq : g nm with
  | none =>
    cases hq' : g' nm with
    | none => rfl
    | some k =>
      obtain ⟨k', e, _⟩ := (h nm k).1 ((h' nm k).2 ⟨k, hq', rfl⟩)
      rw [hq] at e; cases e
  | some k =>
    obtain ⟨k', e, e2⟩ := (h' nm k).1 ((h nm k).2 ⟨k, hq, rfl⟩)
    rw [e]
    congr 1
    omega
theorem rep_syn {w : World} {base d : Nat} {s : DS} {N : Nat} {own : Nat → Prop} (h : Rep w base d s N own) (hc : s.dc = []) : s.dl = s.dn := by
  obtain ⟨x, am, fo, nf, es, lab, hx, rfl⟩ := h
  have h1 := hx.dc
  rw [hc] at h1
  have h2 : x.ls = [] := List.map_eq_nil_iff.1 h1
  have h3 := hx.dk.rd
  rw [h2] at h3
  have h4 : x.last = x.now := h3.symm
  have h5 := hx.dl
  rw [h4] at h5
  exact drel_one h5 hx.dn
theorem rep_fok {w : World} {base d : Nat} {s : DS} {N : Nat} {own : Nat → Prop} (h : Rep w base d s N own) (n : Nat) (hc : (s.fl n).chg = []) : s.fl n = ⟨(s.fl n).now, [], (s.fl n).now⟩ := by
  obtain ⟨x, am, fo, nf, es, lab, hx, rfl⟩ := h
  have h1 := (hx.fok n).2
  rw [hc] at h1
  have h2 : (s.fl n).now = (s.fl n).last := h1
  cases hq : s.fl n with
  | mk l c nw =>
    rw [hq] at hc h2
    dsimp only at hc h2
    subst hc h2
    rfl
/-- Names, with bytes of which nothing is loose. -/
def Good (s : DS) (P : List (ByteArray × List Int)) : Prop := ∀ p ∈ P, nmOk p.1 ∧ ∃ n, s.dn p.1 = some n ∧ s.fl n = ⟨p.2, [], p.2⟩
theorem crash_good {s : DS} {P : List (ByteArray × List Int)} (hc : s.dc = []) (hl : s.dl = s.dn) (hg : Good s P) (cs : List Int) : Good (crashS s cs) P ∧ (crashS s cs).dc = [] ∧ (crashS s cs).down = true := by
  have hd : dirAll s.dl (s.dc.take (chosen cs 0 s.dc.length).toNat) = s.dn := by rw [hc, List.take_nil, hl]; rfl
  refine ⟨fun p hp => ?_, rfl, rfl⟩
  obtain ⟨h1, n, h2, h3⟩ := hg p hp
  refine ⟨h1, n, ?_, ?_⟩
  · show dirAll s.dl (s.dc.take (chosen cs 0 s.dc.length).toNat) p.1 = some n
    rw [hd]; exact h2
  · show (failF (dirAll s.dl (s.dc.take (chosen cs 0 s.dc.length).toNat)) cs (namesOf (dirAll s.dl (s.dc.take (chosen cs 0 s.dc.length).toNat))) s.fl (nxt cs 0)).1 n = _
    exact fail_stays h3
theorem crash_dc (s : DS) (cs : List Int) : (crashS s cs).dc = [] ∧ (crashS s cs).down = true := ⟨rfl, rfl⟩
/-- Read, whatever it is handed. -/
theorem read_tot {w : World} {base d : Nat} {s : DS} {N : Nat} {own : Nat → Prop} (h : Rep w base d s N own) (hN : N < 1000000) (nm : ByteArray) (hs : nm.size ≤ maxLen) : Calls Try.prog 12 #[.pointer (some ⟨d, 0, none⟩), .string nm] w fun e w' => ∃ v E, e = .returned (.tuple #[v, .int .i64 E]) ∧ Below w.heap.size w w' ∧ ((E = 0 ∧ s.down = false ∧ nmOk nm ∧ ∃ n, s.dn nm = some n ∧ Buf w' w.heap.size v (s.fl n).now) ∨ E ≠ 0) := by
  rcases there_or s nm with hb | ⟨h1, h2, n, h3⟩
  · obtain ⟨E, hE, hc⟩ := find_not h nm hs hb
    refine Calls.mono (read_bad _ nm E w hc hE) ?_
    rintro e w' ⟨rfl, hb⟩
    exact ⟨_, E, rfl, hb, .inr (by simpa using hE)⟩
  · refine Calls.mono (read_rep w base d s N own h hN h1 nm h2 n h3) ?_
    rintro e w' ⟨v, rfl, hbuf, hb⟩
    exact ⟨v, 0, rfl, hb, .inl ⟨rfl, h1, h2, n, h3, hbuf⟩⟩
/-- The directory's loose changes, as they are told. -/
noncomputable def lsd (s : DS) : Nat := if s.down then 0 else s.dc.length
theorem loosed_tot {w : World} {base d : Nat} {s : DS} {N : Nat} {own : Nat → Prop} (h : Rep w base d s N own) : Ans 9 #[.pointer (some ⟨d, 0, none⟩), .string ⟨#[]⟩] w fun v w' => v = lsd s ∧ Below w.heap.size w w' := by
  cases hd : s.down with
  | true =>
    refine Calls.mono (loosed_down w base d s N own h hd) ?_
    rintro e w' ⟨v, rfl, rfl, hb⟩
    exact ⟨_, rfl, by unfold lsd; rw [hd]; rfl, hb⟩
  | false =>
    refine Calls.mono (loosed_up w base d s N own h hd) ?_
    rintro e w' ⟨v, rfl, rfl, rfl⟩
    exact ⟨_, rfl, by unfold lsd; rw [hd]; rfl, Below.refl _ _⟩
theorem names_tot {w : World} {base d : Nat} {s : DS} {N : Nat} {own : Nat → Prop} (h : Rep w base d s N own) (hN : N < 1000000) : ∃ L : List ByteArray, L.length ≤ N ∧ (∀ nm ∈ L, nm.size ≤ maxLen) ∧ Calls Try.prog 11 #[.pointer (some ⟨d, 0, none⟩)] w fun e w' => ∃ v, e = .returned v ∧ w'.ownsRow w.heap.size 9 1 v L.length (L.map Value.string) ∧ Below w.heap.size w w' := by
  cases hd : s.down with
  | true =>
    refine ⟨[], by simp, by simp, Calls.mono (names_down w base d s N own h hd) ?_⟩
    rintro e w' ⟨rfl, rfl⟩
    exact ⟨_, rfl, World.ownsRow_nil _ _ _ _, Below.refl _ _⟩
  | false =>
    obtain ⟨L, _, h2, h4, h3⟩ := names_up w base d s N own h hN hd
    exact ⟨L, h2, h4, h3⟩
end Go.Proofs.Ytkmohpdcchpndaa

/-
  DiskLasts: what is held beside the disk.
-/
namespace Go.Proofs.Ytkmohpdcchpndaa
open Go.RowKit
set_option linter.unusedVariables false
set_option linter.unusedSimpArgs false
set_option maxRecDepth 100000
theorem Try.info9s : (Try.prog.info? 9).map (fun i => (i.zero, i.size, i.bytes)) = some (some (.string ⟨#[]⟩), 1, 16) := by kernel_rfl
theorem wpList_append_to {P : Program} (w : World) {ops : Array Oper} {rest : List Oper} {o : Oper} {a : Act} {Q : Exit → Act → World → Prop} (hgd : o.guard = none) (s x : Operand) (t : TypeId)
    (hop : o.op = .call { callee := .builtin .append, args := #[s, x], argTypes := #[t, t] })
    (base : Nat) (e : TypeId) (i : TypeInfo) (z : Value) (size bytes : Nat) (h1 : P.underlying t = some (.slice e)) (h2 : P.info? e = some i) (h3 : i.zero = some z) (h4 : i.size = size) (h5 : i.bytes = bytes) (h6 : z.cells.size = size) (h7 : 0 < size)
    (v : Value) (n : Nat) (xs : List Value) (hs : a.eval s = v) (hown : w.ownsRow base e size v n xs)
    (ad : Addr) (m c : Nat) (news : List Value) (hx : a.eval x = .slice (some ad) m c) (hn : news.length = m * size) (hc : ∀ j u, news[j]? = some u → w.cell? (ad.add j) = some u) (h1c : ∀ u ∈ news, u.oneCell' = true)
    (b1 : n + m ≤ maxLen) (b2 : (n + m) * bytes ≤ 140737488355328) (hb : base ≤ w.heap.size)
    (h : ∀ v' w', w'.ownsRow base e size v' (n + m) (xs ++ news) → w.grownBy w' v.ownBlock → (v'.ownBlock = v.ownBlock ∨ v'.ownBlock = some w.heap.size) → wpList P ops Q rest (a.put o.dst v') w') : wpList P ops Q (o :: rest) a w :=
  wpList_plain hgd fun _ hK => by
    obtain ⟨v', w', hrun, r1, r2, _, r4⟩ := run_append_own_at (P := P) w base t o.type e i z size bytes h1 h2 h3 h4 h5 h6 h7 v n xs hown ad m c news hn hc h1c b1 b2 hb
    unfold Oper.wp
    simp [execOp, hop, resolve, invoke, builtin, hs, hx, hrun, Result.andThen]
    exact hK _ _ (h v' w' r1 r2 r4)
def nmV (P : List (ByteArray × List Int)) : List Value := P.map fun p => .string p.1
def btV (P : List (ByteArray × List Int)) : List Value := P.map fun p => .string (bstr p.2)
/-- The disk, the list of its names, what is written down of it: names, bytes. -/
structure Rc (w wr : World) (B d : Nat) (s : DS) (own : Nat → Prop) (b8 : Nat) (v8 : Value) (L : List ByteArray) (v9 v10 : Value) (n9 n10 : List Value) : Prop where
  rep : Rep wr B d s 121 own
  bel : Below w.heap.size w wr
  low : ∀ k, own k → w.heap.size ≤ k
  ol : ∀ k, own k → k < b8
  b8w : w.heap.size ≤ b8
  b8l : b8 ≤ wr.heap.size
  r8 : wr.ownsRow w.heap.size 9 1 v8 L.length (L.map Value.string)
  k8 : ∀ k, v8.ownBlock = some k → k < b8
  r9 : wr.ownsRow b8 9 1 v9 n9.length n9
  r10 : wr.ownsRow b8 9 1 v10 n10.length n10
  ap : ∀ k, v9.ownBlock = some k → v10.ownBlock ≠ some k
theorem Rc.below {w wr w' : World} {B d : Nat} {s : DS} {own : Nat → Prop} {b8 : Nat} {v8 : Value} {L : List ByteArray} {v9 v10 : Value} {n9 n10 : List Value} (h : Rc w wr B d s own b8 v8 L v9 v10 n9 n10) (hb : Below wr.heap.size wr w') : Rc w w' B d s own b8 v8 L v9 v10 n9 n10 :=
  { h with
    rep := h.rep.below hb
    bel := h.bel.trans (hb.mono h.bel.size)
    b8l := Nat.le_trans h.b8l hb.size
    r8 := own_blk' h.r8 (fun k hk => hb.block k (h.r8.lt k hk).2)
    r9 := own_blk' h.r9 (fun k hk => hb.block k (h.r9.lt k hk).2)
    r10 := own_blk' h.r10 (fun k hk => hb.block k (h.r10.lt k hk).2) }
/-- A name is written down. -/
theorem Rc.add9 {w wr w' : World} {B d : Nat} {s : DS} {own : Nat → Prop} {b8 : Nat} {v8 : Value} {L : List ByteArray} {v9 v10 v9' : Value} {n9 n10 : List Value} {u : Value} (h : Rc w wr B d s own b8 v8 L v9 v10 n9 n10)
    (hr : w'.ownsRow b8 9 1 v9' (n9.length + 1) (n9 ++ [u])) (hg : wr.grownBy w' v9.ownBlock) (hat : v9'.ownBlock = v9.ownBlock ∨ v9'.ownBlock = some wr.heap.size) : Rc w w' B d s own b8 v8 L v9' v10 (n9 ++ [u]) n10 := by
  have hb8 := h.b8l
  have hw8 := h.b8w
  have ne : ∀ k, k < b8 → some k ≠ v9.ownBlock := fun k hk e => by have := (h.r9.lt k e.symm).1; omega
  refine { h with rep := h.rep.keep hg.size (fun k hk ho => hg.block k hk (ne k (h.ol k ho))), bel := h.bel.grown hg h.bel.size (fun k hk => Nat.le_trans hw8 (h.r9.lt k hk).1), b8l := Nat.le_trans hb8 hg.size, r8 := own_blk' h.r8 (fun k hk => hg.block k (h.r8.lt k hk).2 (ne k (h.k8 k hk))), r9 := by rw [List.length_append]; exact hr, r10 := own_blk' h.r10 (fun k hk => hg.block k (h.r10.lt k hk).2 (fun e => h.ap k e.symm hk)), ap := fun k hk hk2 => ?_ }
  rcases hat with e | e
  · rw [e] at hk; exact h.ap k hk hk2
  · rw [e] at hk
    injection hk with hk
    have := (h.r10.lt k hk2).2
    omega
/-- .. and bytes. -/
theorem Rc.add10 {w wr w' : World} {B d : Nat} {s : DS} {own : Nat → Prop} {b8 : Nat} {v8 : Value} {L : List ByteArray} {v9 v10 v10' : Value} {n9 n10 : List Value} {u : Value} (h : Rc w wr B d s own b8 v8 L v9 v10 n9 n10)
    (hr : w'.ownsRow b8 9 1 v10' (n10.length + 1) (n10 ++ [u])) (hg : wr.grownBy w' v10.ownBlock) (hat : v10'.ownBlock = v10.ownBlock ∨ v10'.ownBlock = some wr.heap.size) : Rc w w' B d s own b8 v8 L v9 v10' n9 (n10 ++ [u]) := by
  have hb8 := h.b8l
  have hw8 := h.b8w
  have ne : ∀ k, k < b8 → some k ≠ v10.ownBlock := fun k hk e => by have := (h.r10.lt k e.symm).1; omega
  refine { h with rep := h.rep.keep hg.size (fun k hk ho => hg.block k hk (ne k (h.ol k ho))), bel := h.bel.grown hg h.bel.size (fun k hk => Nat.le_trans hw8 (h.r10.lt k hk).1), b8l := Nat.le_trans hb8 hg.size, r8 := own_blk' h.r8 (fun k hk => hg.block k (h.r8.lt k hk).2 (ne k (h.k8 k hk))), r10 := by rw [List.length_append]; exact hr, r9 := own_blk' h.r9 (fun k hk => hg.block k (h.r9.lt k hk).2 (fun e => h.ap k hk e.symm)), ap := fun k hk hk2 => ?_ }
  rcases hat with e | e
  · rw [e] at hk2; exact h.ap k hk hk2
  · rw [e] at hk2
    injection hk2 with hk2
    have := (h.r9.lt k hk).2
    omega
/-- A round of failures: the disk, names, bytes. -/
structure Rt (w wr : World) (B d : Nat) (s : DS) (own : Nat → Prop) (v9 v10 : Value) (P : List (ByteArray × List Int)) : Prop where
  rep : Rep wr B d s 121 own
  bel : Below w.heap.size w wr
  low : ∀ k, own k → w.heap.size ≤ k
  r9 : wr.ownsRow w.heap.size 9 1 v9 P.length (nmV P)
  r10 : wr.ownsRow w.heap.size 9 1 v10 P.length (btV P)
  k9 : ∀ k, v9.ownBlock = some k → ¬ own k
  k10 : ∀ k, v10.ownBlock = some k → ¬ own k
theorem Rt.fr {w wr w' : World} {B d : Nat} {s s' : DS} {own own' : Nat → Prop} {v9 v10 : Value} {P : List (ByteArray × List Int)} (h : Rt w wr B d s own v9 v10 P) (hr : Rep w' B d s' 121 own') (hf : Fr wr w' own own') : Rt w w' B d s' own' v9 v10 P := by
  have hs := h.bel.size
  refine ⟨hr, h.bel.trans ⟨hf.os, hf.tape, hf.output, hf.size, fun k hk => hf.block k (by omega) (fun ho => by have := h.low k ho; omega)⟩, fun k hk => (hf.sub k hk).elim (h.low k) (fun h => by omega), own_blk' h.r9 (fun k hk => hf.block k (h.r9.lt k hk).2 (h.k9 k hk)), own_blk' h.r10 (fun k hk => hf.block k (h.r10.lt k hk).2 (h.k10 k hk)), fun k hk ho => (hf.sub k ho).elim (h.k9 k hk) (fun h2 => by have := (h.r9.lt k hk).2; omega), fun k hk ho => (hf.sub k ho).elim (h.k10 k hk) (fun h2 => by have := (h.r10.lt k hk).2; omega)⟩
theorem Rt.below {w wr w' : World} {B d : Nat} {s : DS} {own : Nat → Prop} {v9 v10 : Value} {P : List (ByteArray × List Int)} (h : Rt w wr B d s own v9 v10 P) (hb : Below wr.heap.size wr w') : Rt w w' B d s own v9 v10 P := h.fr (h.rep.below hb) (Fr.below hb own)
theorem Rc.rt {w wr : World} {B d : Nat} {s : DS} {own : Nat → Prop} {b8 : Nat} {v8 : Value} {L : List ByteArray} {v9 v10 : Value} {P : List (ByteArray × List Int)} (h : Rc w wr B d s own b8 v8 L v9 v10 (nmV P) (btV P)) : Rt w wr B d s own v9 v10 P := by
  have h9 := h.r9
  have h10 := h.r10
  have e9 : (nmV P).length = P.length := by simp [nmV]
  have e10 : (btV P).length = P.length := by simp [btV]
  rw [e9] at h9
  rw [e10] at h10
  exact ⟨h.rep, h.bel, h.low, own_low' h9 h.b8w, own_low' h10 h.b8w, fun k hk ho => by have := h.ol k ho; have := (h.r9.lt k hk).1; omega, fun k hk ho => by have := h.ol k ho; have := (h.r10.lt k hk).1; omega⟩
/-- What is known of the disk ahead of each turn. -/
def St (T : Nat) (s : DS) (P : List (ByteArray × List Int)) : Prop :=
  (T = 0 ∧ ((s.down = true ∧ P = []) ∨ (s.down = false ∧ s.dc = [] ∧ Good s P))) ∨ (T = 1 ∧ s.down = false ∧ (P = [] ∨ (s.dc = [] ∧ Good s P))) ∨ (T = 2 ∧ s.down = false ∧ s.dc = [])
/-- Behind a failure, and up again. -/
theorem St.turn {T : Nat} {s : DS} {P : List (ByteArray × List Int)} (h : St T s P) (hT : T < 2) (hl : s.dc = [] → s.dl = s.dn) (cs : List Int) : (s.down = true → T = 0 ∧ P = [] ∧ St 1 { s with down := false } P ∧ Good { s with down := false } P) ∧ (s.down = false → St (T + 1) { crashS s cs with down := false } P ∧ Good { crashS s cs with down := false } P) := by
  constructor
  · intro hd
    rcases h with ⟨h0, ⟨_, hp⟩ | ⟨h1, _⟩⟩ | ⟨_, h1, _⟩ | ⟨_, h1, _⟩
    · exact ⟨h0, hp, .inr (.inl ⟨rfl, rfl, .inl hp⟩), fun p hpp => by rw [hp] at hpp; cases hpp⟩
    · rw [hd] at h1; cases h1
    · rw [hd] at h1; cases h1
    · rw [hd] at h1; cases h1
  · intro hd
    have key : Good s P → s.dc = [] → Good { crashS s cs with down := false } P := fun hg hc => (crash_good hc (hl hc) hg cs).1
    have nilG : P = [] → Good { crashS s cs with down := false } P := fun hp p hpp => by rw [hp] at hpp; cases hpp
    rcases h with ⟨h0, ⟨h1, _⟩ | ⟨_, hc, hg⟩⟩ | ⟨h0, _, hp | ⟨hc, hg⟩⟩ | ⟨h0, _⟩
    · rw [hd] at h1; cases h1
    · exact ⟨.inr (.inl ⟨by omega, rfl, .inr ⟨rfl, key hg hc⟩⟩), key hg hc⟩
    · exact ⟨.inr (.inr ⟨by omega, rfl, rfl⟩), nilG hp⟩
    · exact ⟨.inr (.inr ⟨by omega, rfl, rfl⟩), key hg hc⟩
    · omega
/-- Behind the sync of the directory. -/
theorem fin_or (s : DS) : (finS s).2.down = true ∨ (finS s).2.dc = s.dc := by
  unfold finS
  split
  · exact .inl rfl
  · exact .inr rfl
theorem syncd_fin (s : DS) : (finS (syncD s)).2.down = true ∨ (finS (syncD s)).2.dc = [] := by
  by_cases hg : goesS s = true
  · have e : syncD s = s := by unfold syncD; rw [if_pos hg]
    rw [e]
    left
    unfold goesS at hg
    unfold finS
    split at hg
    · rename_i cs ha
      rw [ha]
      rfl
    · cases hg
  · have e : syncD s = { s with dl := s.dn, dc := [] } := by unfold syncD; rw [if_neg hg]
    rw [e]
    exact fin_or _
end Go.Proofs.Ytkmohpdcchpndaa

/-
  DiskLasts.
-/
namespace Go.Proofs.Ytkmohpdcchpndaa
open Go.RowKit
set_option linter.unusedVariables false
set_option linter.unusedSimpArgs false
set_option maxRecDepth 100000
theorem Sin.below {w w' : World} {L L' : Nat} {a : Option Addr} {os : List Oy} (h : Sin w L a os) (hb : Below w.heap.size w w') (hL : L ≤ L') : Sin w' L' a os := by
  have h2 := h.fr (own := fun _ => False) (Fr.below hb _) (fun k hk => hk.elim)
  refine ⟨fun o ho => { h2.each o ho with low := fun x hx h0 => Nat.lt_of_lt_of_le ((h2.each o ho).low x hx h0) hL, clow := fun x hx h0 => Nat.lt_of_lt_of_le ((h2.each o ho).clow x hx h0) hL }, ?_⟩
  rcases h2.row with h0 | ⟨g, off, ha, hg, hc⟩
  · exact .inl h0
  · exact .inr ⟨g, off, ha, Nat.lt_of_lt_of_le hg hL, hc⟩
theorem row_slice {w : World} {base : Nat} {v : Value} {n : Nat} {xs : List Value} (h : w.ownsRow base 9 1 v n xs) : ∃ a c, v = .slice a n c ∧ (0 < n → ∃ g, a = some ⟨g, 0, none⟩) := by
  rcases h.2 with ⟨rfl, rfl⟩ | ⟨g, cap, cur, rfl, _⟩
  · exact ⟨none, 0, rfl, fun h => by omega⟩
  · exact ⟨_, cap, rfl, fun _ => ⟨g, rfl⟩⟩
theorem buf_on {wr w7 w8 w9 : World} {v v9 : Value} {zs : List Int} {o : Obj} (hb : Buf w7 wr.heap.size v zs) (h8 : Below w7.heap.size w7 w8) (hg : (w8.alloc o).grownBy w9 v9.ownBlock) (h9 : ∀ k, v9.ownBlock = some k → k < wr.heap.size) : Buf w9 wr.heap.size v zs :=
  hb.keep (fun k hk => by
    have hl := hb.low hk
    have hs := h8.size
    rw [hg.block k (by simp; omega) (fun e => by have := h9 k e.symm; omega), Below.heap_alloc _ _ k (by omega), h8.block k hl.2])
theorem Good.snoc {s : DS} {P : List (ByteArray × List Int)} (h : Good s P) {nm : ByteArray} {n : Nat} (h1 : nmOk nm) (h2 : s.dn nm = some n) (zs : List Int) (h3 : s.fl n = ⟨zs, [], zs⟩) : Good s (P ++ [(nm, zs)]) := fun p hp => by
  rcases List.mem_append.1 hp with hp | hp
  · exact h p hp
  · rw [List.mem_singleton.1 hp]
    exact ⟨h1, n, h2, h3⟩
set_option maxHeartbeats 8000000 in
theorem lasts_any (w : World) (room : Int) (hroom : room ≤ 9223372036854775807) (a : Option Addr) (n cap : Nat) (os : List Oy) (hn : os.length = n) (hl : n ≤ 140737488351232) (hS : Sin w w.heap.size a os) (ac : Option Addr) (nc cc : Nat) (cs : List Int) (hcn : cs.length = nc) (hNm : Nums w ac cs) (hcr : ∀ c ∈ cs, -9223372036854775808 ≤ c ∧ c ≤ 9223372036854775807) (hcb : ac = none → cc = 0) (hcl : nc ≤ 17592186043904) :
    Calls Try.prog 3 #[.int .i64 room, .slice a n cap, .slice ac nc cc] w fun e w' => e = .returned (.bool true) ∧ Below w.heap.size w w' := by
  obtain ⟨i9, hi9, hy0, hy1, hy2⟩ := info_parts Try.info9s
  have HS := hideL hS
  have Hn := hideL hn
  have HCN := hideL hcn
  have HNM := hideL hNm
  have HCR := hideL hcr
  have HCB := hideL hcb
  clear hS hn hcn hNm hcr hcb
  go_enter Try.func3, Try.ntmps3
  go_wp2_with fail
  refine (awake_any w).mono ?_
  rintro e w1 ⟨rfl, b1⟩
  have HB1 := hideL b1
  clear b1
  go_wp2_with fail
  refine (made_any w1 room a n cap os Hn.out hl (HS.out.below HB1.out HB1.out.size) hroom).mono ?_
  rintro e w2 ⟨d, s, own, rfl, hR, hb2, hlo⟩
  have HR := hideL hR
  have HLO := hideL hlo
  have HB2 : Hid (Below w.heap.size w w2) := HB1.out.trans (hb2.mono HB1.out.size)
  have hs1 := HB1.out.size
  clear hR hb2 hlo
  go_wp2_with fail
  refine Calls.mono (loosed_tot HR.out) ?_
  rintro e w3 ⟨v, rfl, hv, hb3⟩
  have HR3 := hideL (HR.out.below hb3)
  have HB3 : Hid (Below w.heap.size w w3) := HB2.out.trans (hb3.mono HB2.out.size)
  obtain ⟨B, hB⟩ : ∃ B, w1.heap.size = B := ⟨_, rfl⟩
  rw [hB] at HR3 HLO hs1
  clear hb3 HR HB2 HB1 HS hB
  go_upto_if 25 with fail
  go_cut [] (fun wx => ∃ (s1 : DS) (own1 : Nat → Prop), Hid (Rep wx B d s1 121 own1) ∧ Hid (∀ k, own1 k → w.heap.size ≤ k) ∧ Hid (Below w.heap.size w wx) ∧ Hid (s1.down = true ∨ s1.dc = []))
  case first =>
    by_cases h0 : 0 < v
    · have hup : s.down = false := by
        cases hd : s.down with
        | false => rfl
        | true => rw [hv, lsd, hd] at h0; simp at h0
      have HT := hideL (syncdir_rep w3 B d s 120 own HR3.out (by omega) hup)
      go_wp2_with (go_at_call 10; refine Calls.mono HT.out ?_; rintro e w4 ⟨v4, rfl, _, own4, hr4, hf4⟩; have HR4 := hideL hr4; have HF4 := hideL hf4; clear hr4 hf4)
      go_meet
      have hsz := HB3.out.size
      exact ⟨_, own4, HR4.out.mono (by omega), fun k hk => (HF4.out.sub k hk).elim (fun h => Nat.le_trans hs1 (HLO.out k h)) (fun h => by omega), HB3.out.trans ⟨HF4.out.os, HF4.out.tape, HF4.out.output, HF4.out.size, fun k hk => HF4.out.block k (by omega) (fun h => by have := HLO.out k h; omega)⟩, syncd_fin s⟩
    · have HD : Hid (s.down = true ∨ s.dc = []) := by
        show _ ∨ _
        cases hd : s.down with
        | true => exact .inl rfl
        | false =>
          right
          rw [hv, lsd, hd] at h0
          simp at h0
          exact h0
      go_wp2_with fail
      go_meet
      exact ⟨s, own, HR3.out.mono (by omega), fun k hk => Nat.le_trans hs1 (HLO.out k hk), HB3.out, HD.out⟩
  case rest =>
    obtain ⟨s1, own1, HR5, HLO5, HB5, HD5⟩ := hcut
    clear HR3 HB3 HLO
    obtain ⟨L, hLN, hLS, hc11⟩ := names_tot HR5.out (by omega)
    have HC11 := hideL hc11
    have HLS := hideL hLS
    clear hc11 hLS
    go_wp2_with fail
    refine HC11.out.mono ?_
    rintro e w6 ⟨v8, rfl, hr8, hb6⟩
    have hL6 := hb6.size
    have hLB := HB5.out.size
    obtain ⟨NL, hNL⟩ : ∃ N, L.length = N := ⟨_, rfl⟩
    have HNL := hideL hNL
    obtain ⟨a8, c8, hv8, ha8⟩ := row_slice hr8
    rw [hNL] at hv8 ha8 hLN
    subst hv8
    have HRC : Hid (Rc w w6 B d s1 own1 w6.heap.size (.slice a8 NL c8) L (.slice none 0 0) (.slice none 0 0) (nmV []) (btV [])) :=
      ⟨HR5.out.below hb6, HB5.out.trans (hb6.mono hLB), HLO5.out, fun k hk => by have := HR5.out.lt hk; omega, by omega, Nat.le_refl _, own_low' hr8 hLB, fun k hk => (hr8.lt k hk).2, World.ownsRow_nil _ _ _ _, World.ownsRow_nil _ _ _ _, fun k hk => by cases hk⟩
    have HG : Hid (Good s1 [] ∧ (([] : List (ByteArray × List Int)) ≠ [] → s1.down = false)) := ⟨fun p hp => (by cases hp), fun h => absurd rfl h⟩
    obtain ⟨b8, hb8⟩ : ∃ b, w6.heap.size = b := ⟨_, rfl⟩
    rw [hb8] at HRC
    clear hr8 hb6 hNL hL6 hb8 HR5 HB5 HC11
    go_wp2
    go_loopw [9, 10, 11] (fun t9 t10 t11 wr => ∃ (i : Nat) (P : List (ByteArray × List Int)), t11 = .int .i64 i ∧ i ≤ NL ∧ P.length ≤ i ∧ Hid (Rc w wr B d s1 own1 b8 (.slice a8 NL c8) L t9 t10 (nmV P) (btV P)) ∧ Hid (Good s1 P ∧ (P ≠ [] → s1.down = false))) (fun _ _ t11 _ => NL - (intOf t11).toNat)
    case atStart => exact ⟨0, [], rfl, by omega, by simp, HRC, HG⟩
    case round =>
      obtain ⟨i, P, rfl, hi, hPi, HR, HGP⟩ := hrel
      clear HRC HG
      have i0 : (0 : Int) ≤ i := by omega
      have hb8w := HR.out.b8l
      by_cases hin : i < NL
      · have hi2 : (i : Int) < NL := by omega
        obtain ⟨g8, rfl⟩ := ha8 (by omega)
        rcases hti : L[i]? with _ | nm
        · have := List.getElem?_eq_none_iff.1 hti; have := HNL.out; omega
        have hc8 : wr.cell? ⟨g8, i, none⟩ = some (.string nm) := by
          rw [(HNL.out ▸ HR.out.r8 : wr.ownsRow w.heap.size 9 1 (.slice (some ⟨g8, 0, none⟩) NL c8) NL (L.map Value.string)).cellAt i (by omega), List.getElem?_map, hti]
          rfl
        have hns := HLS.out nm (List.mem_of_getElem? hti)
        have HRD := hideL (read_tot HR.out.rep (by omega) nm hns)
        clear hti
        go_wp2_with fail
        refine HRD.out.mono ?_
        rintro e w7 ⟨v, E, rfl, hb7, hE⟩
        have HR7 := hideL (HR.out.below hb7)
        have hc87 : w7.cell? ⟨g8, i, none⟩ = some (.string nm) := cell_of_below hb7 hc8
        by_cases hE0 : E = 0
        · subst hE0
          rcases hE with ⟨_, hup, hnok, nf, hdn, hbuf⟩ | h
          · have HLO' := hideL (loose_rep w7 B d s1 121 own1 HR7.out.rep (by omega) hup nm hnok nf hdn)
            go_wp2_with fail
            refine Calls.mono HLO'.out ?_
            rintro e w8 ⟨vl, rfl, hvl, hb8'⟩
            have HR8 := hideL (HR7.out.below hb8')
            have hc88 : w8.cell? ⟨g8, i, none⟩ = some (.string nm) := cell_of_below hb8' hc87
            by_cases hch : (s1.fl nf).chg = []
            · have hv0 : vl = 0 := by rw [hvl, hch]; rfl
              subst hv0
              obtain ⟨zs, hzs⟩ : ∃ z, (s1.fl nf).now = z := ⟨_, rfl⟩
              rw [hzs] at hbuf
              have HFL : Hid (s1.fl nf = ⟨zs, [], zs⟩) := hzs ▸ rep_fok HR8.out.rep nf hch
              have HG2 : Hid (Good s1 (P ++ [(nm, zs)]) ∧ (P ++ [(nm, zs)] ≠ [] → s1.down = false)) := ⟨HGP.out.1.snoc hnok hdn zs HFL.out, fun _ => hup⟩
              obtain ⟨ab, cb, hvb, _⟩ := hbuf.form
              obtain ⟨nz, hnz⟩ : ∃ k, zs.length = k := ⟨_, rfl⟩
              rw [hnz] at hvb
              subst hvb
              have HBUF := hideL hbuf
              have HB8 := hideL hb8'
              have HNZ := hideL hnz
              have HK9 : Hid (∀ k, u9.ownBlock = some k → k < wr.heap.size) := fun k hk => (HR.out.r9.lt k hk).2
              have HR8a := hideL (HR8.out.below ((Below.refl _ w8).alloc (Nat.le_refl _) (.cells #[.string nm] 9 (0, 0))))
              have hPn : (nmV P).length ≤ 1000 := by simp [nmV]; omega
              have hPb : (btV P).length ≤ 1000 := by simp [btV]; omega
              have h8l := HR8.out.b8l
              clear hbuf hb8' hb7 hvl hzs hch hnz
              go_wp2_with first
                | (at_builtin; refine wpList_append_to _ rfl (.tmp 56) (.tmp 61) 30 rfl b8 9 i9 _ 1 16 Try.underlying30 hi9 hy0 hy1 hy2 rfl (by decide) u9 (nmV P).length (nmV P) rfl HR8a.out.r9 ⟨w8.heap.size, 0, none⟩ 1 1 [.string nm] rfl rfl (World.news_of_block (Go.heap_alloc_new w8 _)) (fun u hu => by rw [List.mem_singleton.1 hu]; rfl) (by unfold maxLen; omega) (by omega) (by simp; omega) ?_; intro v9' w9 hown9 hgr9 hat9; have HR9 := hideL (HR8a.out.add9 hown9 hgr9 hat9); have HBF9 := hideL (buf_on HBUF.out HB8.out hgr9 HK9.out); have hcv := str_of w9 ab nz cb zs HNZ.out (buf_has HBF9.out); have h9l := HR9.out.b8l; have HR9a := hideL (HR9.out.below ((Below.refl _ w9).alloc (Nat.le_refl _) (.cells #[.string (bstr zs)] 9 (0, 0)))); clear hown9 hgr9 hat9)
                | (at_builtin; refine wpList_append_to _ rfl (.tmp 63) (.tmp 66) 30 rfl b8 9 i9 _ 1 16 Try.underlying30 hi9 hy0 hy1 hy2 rfl (by decide) u10 (btV P).length (btV P) rfl HR9a.out.r10 ⟨w9.heap.size, 0, none⟩ 1 1 [.string (bstr zs)] rfl rfl (World.news_of_block (Go.heap_alloc_new w9 _)) (fun u hu => by rw [List.mem_singleton.1 hu]; rfl) (by unfold maxLen; omega) (by omega) (by simp; omega) ?_; intro v10' w10 hown10 hgr10 hat10; have HR10 := hideL (HR9a.out.add10 hown10 hgr10 hat10); clear hown10 hgr10 hat10)
              go_roundw
              case rel => exact ⟨i + 1, P ++ [(nm, zs)], by go_num, by omega, by simp; omega, by simpa [nmV, btV] using HR10, HG2⟩
              case measure => simp [intOf]; omega
            · have hv0 : ¬ vl = 0 := by
                intro e
                rw [hvl] at e
                exact hch (List.length_eq_zero_iff.1 (by omega))
              have hvb : (vl == 0) = false := by rw [beq_eq_false_iff_ne]; exact hv0
              clear hvl hbuf hb7 hb8'
              go_wp2_with fail
              go_roundw
              case rel => exact ⟨i + 1, P, by go_num, by omega, by omega, HR8, HGP⟩
              case measure => simp [intOf]; omega
          · exact absurd rfl h
        · have hEb : (E == 0) = false := by rw [beq_eq_false_iff_ne]; exact hE0
          clear hE hb7
          go_wp2_with fail
          go_roundw
          case rel => exact ⟨i + 1, P, by go_num, by omega, by omega, HR7, HGP⟩
          case measure => simp [intOf]; omega
      · have hi2 : ¬ (i : Int) < NL := by omega
        have HLS0 : Hid (lsd s1 = 0) := by
          show _ = _
          unfold lsd
          rcases HD5.out with h | h
          · rw [h]; rfl
          · rw [h]; split <;> rfl
        have HLT := hideL (loosed_tot HR.out.rep)
        go_wp2_with fail
        refine Calls.mono HLT.out ?_
        rintro e w7 ⟨v, rfl, hv, hb7⟩
        rw [HLS0.out] at hv
        obtain rfl : v = 0 := hv
        have HT7 := hideL (HR.out.below hb7).rt
        have HST : Hid (St 0 s1 P) := by
          refine .inl ⟨rfl, ?_⟩
          cases hd : s1.down with
          | true =>
            refine .inl ⟨rfl, ?_⟩
            cases P with
            | nil => rfl
            | cons p P => have := HGP.out.2 (by simp); rw [hd] at this; cases this
          | false =>
            refine .inr ⟨rfl, ?_, HGP.out.1⟩
            rcases HD5.out with h | h
            · rw [hd] at h; cases h
            · exact h
        obtain ⟨NP, hNP⟩ : ∃ N, P.length = N := ⟨_, rfl⟩
        have HNP := hideL hNP
        obtain ⟨a9, c9, hv9, ha9⟩ := row_slice HT7.out.r9
        obtain ⟨a10, c10, hv10, ha10⟩ := row_slice HT7.out.r10
        rw [hNP] at hv9 hv10 ha9 ha10
        subst hv9 hv10
        have hNPl : NP ≤ 121 := by omega
        clear hb7 HLT HR HGP hNP HLS HD5 HLO5
        go_wp2
        go_loopw [14] (fun t wr => ∃ (T : Nat) (s : DS) (own : Nat → Prop), t = .int .i64 T ∧ T ≤ 2 ∧ Hid (Rt w wr B d s own (.slice a9 NP c9) (.slice a10 NP c10) P) ∧ Hid (St T s P)) (fun t _ => 2 - (intOf t).toNat)
        case atStart => exact ⟨0, s1, own1, rfl, by omega, HT7, HST⟩
        case round =>
          obtain ⟨T, s2, own2, rfl, hT, HRt, HSt⟩ := hrel
          clear HT7 HST
          have T0 : (0 : Int) ≤ T := by omega
          by_cases hT2 : T < 2
          · have hT2' : (T : Int) < 2 := by omega
            go_wp2_with fail
            refine (ints_any wr ac nc cc cs HCN.out (HNM.out.below HRt.out.bel) HCB.out hcl).mono ?_
            rintro e w8 ⟨g, cp, rfl, hio⟩
            have HR8 := hideL (HRt.out.below hio.bel)
            have hgl := hio.lt
            have hgn := hio.new
            have hng : ¬ own2 g := fun h => by have := HRt.out.rep.lt h; omega
            have HCH : Hid (Chs w8 own2 (some ⟨g, 0, none⟩) nc cp cs) := chs_of HCN.out hio.cells hgl hng HCR.out (by have := HCN.out; omega)
            have HTN := hideL (HSt.out.turn hT2 (fun h => rep_syn HRt.out.rep h) cs)
            clear hio HRt
            have HCR2 : Hid (Calls Try.prog 13 #[.pointer (some ⟨d, 0, none⟩), .slice (some ⟨g, 0, none⟩) nc cp] w8 fun e w' => e = .returned (.tuple #[]) ∧ ∃ s3 own3, Rt w w' B d s3 own3 (.slice a9 NP c9) (.slice a10 NP c10) P ∧ s3.down = true ∧ St (T + 1) { s3 with down := false } P ∧ Good { s3 with down := false } P) := by
              show Calls _ _ _ _ _
              cases hd : s2.down with
              | true =>
                obtain ⟨h1, h2, h3, h4⟩ := HTN.out.1 hd
                refine Calls.mono (crash_down w8 d _ (hd ▸ isDown HR8.out.rep)) ?_
                rintro e w' ⟨rfl, rfl⟩
                exact ⟨rfl, s2, own2, HR8.out, hd, by rw [h1]; exact h3, h4⟩
              | false =>
                obtain ⟨h1, h2⟩ := HTN.out.2 hd
                refine Calls.mono (crash_rep w8 B d s2 121 own2 HR8.out.rep (by omega) hd _ nc cp cs HCH.out) ?_
                rintro e w' ⟨rfl, own3, hr3, hf3⟩
                exact ⟨rfl, _, own3, HR8.out.fr hr3 hf3, rfl, h1, h2⟩
            clear HTN HCH HSt
            go_wp2_with fail
            refine HCR2.out.mono ?_
            rintro e w9 ⟨rfl, s3, own3, hR3, hd3, hst3, hg3⟩
            have HR3 := hideL hR3
            have HS3 := hideL hst3
            have HG3 := hideL hg3
            have HDN := hideL (down_rep w9 B d s3 121 own3 hR3.rep)
            have HUP := hideL (up_rep w9 B d s3 121 own3 hR3.rep)
            rw [hd3] at HDN
            clear hR3 hst3 hg3 HCR2
            go_wp2_with fail
            refine HDN.out.mono ?_
            rintro e w10 ⟨rfl, hw10⟩
            obtain rfl : w9 = w10 := hw10.symm
            go_wp2_with fail
            refine HUP.out.mono ?_
            rintro e w11 ⟨rfl, own4, hr4, hf4⟩
            have HR4 := hideL (HR3.out.fr hr4 hf4)
            obtain ⟨s4, hs4⟩ : ∃ s, ({ s3 with down := false } : DS) = s := ⟨_, rfl⟩
            have hup4 : s4.down = false := by rw [← hs4]
            rw [hs4] at HR4 HS3 HG3
            clear hr4 hf4 HUP HDN HR3 hd3 hs4
            go_wp2
            go_loopw [15] (fun t wq => ∃ j : Nat, t = .int .i64 j ∧ j ≤ NP ∧ Hid (Rt w wq B d s4 own4 (.slice a9 NP c9) (.slice a10 NP c10) P)) (fun t _ => NP - (intOf t).toNat)
            case atStart => exact ⟨0, rfl, by omega, HR4⟩
            case round =>
              obtain ⟨j, rfl, hj, HRj⟩ := hrel
              clear HR4
              have j0 : (0 : Int) ≤ j := by omega
              by_cases hjn : j < NP
              · have hjn' : (j : Int) < NP := by omega
                obtain ⟨g9, rfl⟩ := ha9 (by omega)
                obtain ⟨g10, rfl⟩ := ha10 (by omega)
                rcases hpj : P[j]? with _ | p
                · have := List.getElem?_eq_none_iff.1 hpj; have := HNP.out; omega
                obtain ⟨nm, zs⟩ := p
                have x9 : wr.cell? ⟨g9, j, none⟩ = some (.string nm) := by
                  have h := HRj.out.r9
                  rw [HNP.out] at h
                  rw [h.cellAt j (by omega)]
                  simp [nmV, hpj]
                have x10 : wr.cell? ⟨g10, j, none⟩ = some (.string (bstr zs)) := by
                  have h := HRj.out.r10
                  rw [HNP.out] at h
                  rw [h.cellAt j (by omega)]
                  simp [btV, hpj]
                obtain ⟨hok, nf, hdn, hfl⟩ := HG3.out _ (List.mem_of_getElem? hpj)
                dsimp only at hok hdn hfl
                have HRD := hideL (read_rep wr B d s4 121 own4 HRj.out.rep (by omega) hup4 nm hok nf hdn)
                rw [hfl] at HRD
                dsimp only at HRD
                clear hpj
                go_wp2_with fail
                refine HRD.out.mono ?_
                rintro e w12 ⟨v, rfl, hbuf, hb12⟩
                have HR12 := hideL (HRj.out.below hb12)
                have y9 : w12.cell? ⟨g9, j, none⟩ = some (.string nm) := cell_of_below hb12 x9
                have y10 : w12.cell? ⟨g10, j, none⟩ = some (.string (bstr zs)) := cell_of_below hb12 x10
                obtain ⟨ab, cb, hvb, _⟩ := hbuf.form
                obtain ⟨nz, hnz⟩ : ∃ k, zs.length = k := ⟨_, rfl⟩
                rw [hnz] at hvb
                subst hvb
                have hcv := fun q => str_of (w12.drewN q) ab nz cb zs hnz (Has.of_below (buf_has hbuf) ⟨rfl, rfl, rfl, Nat.le_refl _, fun _ _ => rfl⟩)
                have hcv1 : (convert 32 9 (.slice ab nz cb)).run Try.prog w12.drew = .ok (.string (bstr zs)) w12.drew := hcv 1
                have hLS := loose_rep w12.drew B d s4 121 own4 (HR12.out.rep.below ⟨rfl, rfl, rfl, Nat.le_refl _, fun _ _ => rfl⟩) (by omega) hup4 nm hok nf hdn
                rw [hfl] at hLS
                have HLS2 : Hid (Ans 9 #[.pointer (some ⟨d, 0, none⟩), .string nm] w12.drew fun v w' => v = 0 ∧ Below w12.heap.size w12 w') := by
                  refine Calls.mono hLS ?_
                  rintro e w' ⟨v, rfl, hv, hb⟩
                  exact ⟨v, rfl, hv, (⟨rfl, rfl, rfl, Nat.le_refl _, fun _ _ => rfl⟩ : Below w12.heap.size w12 w12.drew).trans hb⟩
                have HCV : Hid (∀ W, Below w12.heap.size w12 W → (convert 32 9 (.slice ab nz cb)).run Try.prog W = .ok (.string (bstr zs)) W) := fun W hW => str_of W ab nz cb zs hnz ((buf_has hbuf).of_below hW)
                have hcv0 : (convert 32 9 (.slice ab nz cb)).run Try.prog w12 = .ok (.string (bstr zs)) w12 := HCV.out w12 (Below.refl _ _)
                obtain ⟨S, hS⟩ : ∃ S, bstr zs = S := ⟨_, rfl⟩
                rw [hS] at hcv1 y10 hcv0 HCV
                clear hcv hLS hbuf hb12 x9 x10 hnz HRD HRj hS hfl
                go_upto_region 28 with fail
                go_region_held3 (fun w' => w'.cell? ⟨g9, j, none⟩ = some (.string nm) ∧ w'.cell? ⟨g10, j, none⟩ = some (.string S) ∧ (convert 32 9 (.slice ab nz cb)).run Try.prog w' = .ok (.string S) w') (go_keep) (first | (go_at_call 9; refine Calls.mono HLS2.out ?_; rintro e w13 ⟨v13, rfl, rfl, hb13⟩; have z9 := cell_of_below hb13 y9; have z10 := cell_of_below hb13 y10; have z11 := HCV.out w13 hb13))
                have HR13 := hideL (HR12.out.below hb13)
                clear hb13 z9 z10 z11 y9 y10 hcv0 hcv1
                go_wp2_with fail
                go_roundw
                case rel => exact ⟨j + 1, by go_num, by omega, HR13⟩
                case measure => simp [intOf]; omega
              · have hjn' : ¬ (j : Int) < NP := by omega
                go_wp2_with fail
                go_roundw
                case rel => exact ⟨T + 1, s4, own4, by go_num, by omega, HRj, HS3⟩
                case measure => simp [intOf]; omega
          · have hT2' : ¬ (T : Int) < 2 := by omega
            have HDC : Hid (lsd s2 = 0) := by
              show _ = _
              rcases HSt.out with ⟨h, _⟩ | ⟨h, _⟩ | ⟨_, h1, h2⟩
              · omega
              · omega
              · unfold lsd; rw [h1, h2]; rfl
            have HLT := hideL (loosed_tot HRt.out.rep)
            go_wp2_with fail
            refine Calls.mono HLT.out ?_
            rintro e w8 ⟨v, rfl, hv, hb8⟩
            rw [HDC.out] at hv
            obtain rfl : v = 0 := hv
            have HBF := hideL (HRt.out.bel.trans (hb8.mono HRt.out.bel.size))
            clear hb8
            go_wp2
            go_ret
            exact ⟨rfl, HBF.out⟩
end Go.Proofs.Ytkmohpdcchpndaa

/-
  DiskLasts holds of the program: behind any script, of each file of which nothing is loose, the directory having nothing loose either, name and bytes are there behind a failure of the power, by any choices, and once more. No condition.
-/
namespace Go.Proofs.Ytkmohpdcchpndaa
open Go.ChangeShapes Go.WideShapes Go.ChangeAt Go.RowKit Go.Deep
set_option linter.unusedVariables false
set_option linter.unusedSimpArgs false
theorem pick_list2 {α : Type} (R : Nat → α → Prop) : ∀ n, (∀ i, i < n → ∃ s, R i s) → ∃ ss : List α, ss.length = n ∧ ∀ (i : Nat) (s : α), ss[i]? = some s → R i s
  | 0, _ => ⟨[], rfl, fun i s h => by simp at h⟩
  | n + 1, h => by
    obtain ⟨ss, h1, h2⟩ := pick_list2 R n (fun i hi => h i (by omega))
    obtain ⟨s, hs⟩ := h n (by omega)
    refine ⟨ss ++ [s], by simp [h1], fun i t ht => ?_⟩
    by_cases hi : i < n
    · rw [List.getElem?_append_left (by omega)] at ht; exact h2 i t ht
    · have hlt := (List.getElem?_eq_some_iff.1 ht).1
      simp at hlt
      obtain rfl : i = n := by omega
      rw [List.getElem?_append_right (by omega)] at ht
      simp [h1] at ht
      rw [← ht]; exact hs
theorem seven2 {α : Type} {cs : List α} (h : cs.length = 7) : ∃ c0 c1 c2 c3 c4 c5 c6, cs = [c0, c1, c2, c3, c4, c5, c6] := by
  match cs, h with
  | [c0, c1, c2, c3, c4, c5, c6], _ => exact ⟨c0, c1, c2, c3, c4, c5, c6, rfl⟩
theorem weightsAll_mem {H : Type} {P : Program} {e : TypeId} {d : DataW H} {n : Nat} : ∀ {l : List (DataW H)}, d ∈ l → n ∈ d.weights P e → n ∈ DataW.weightsAll P e l
  | x :: l, hd, hn => by
    rw [DataW.weightsAll, List.mem_append]
    rcases List.mem_cons.1 hd with rfl | hd
    · exact .inl hn
    · exact .inr (weightsAll_mem hd hn)
theorem weights_slice_mem {H : Type} {P : Program} {t e : TypeId} (hu : P.underlying t = some (.slice e)) {l r : List (DataW H)} {d : DataW H} {n : Nat} (hd : d ∈ l) (hn : n ∈ d.weights P e) : n ∈ (DataW.slice l r).weights P t := by
  rw [DataW.weights, hu]
  exact List.mem_cons_of_mem _ (List.mem_append_left _ (weightsAll_mem hd hn))
theorem elem_weights {H : Type} {P : Program} {ts : List TypeId} {ds : List (DataW H)} {j : Nat} {t e : TypeId} {l r : List (DataW H)} {d : DataW H} (h : (DataW.weightsEach P ts ds).all (· ≤ reachBytes) = true) (ht : ts[j]? = some t) (hd : ds[j]? = some (.slice l r)) (hu : P.underlying t = some (.slice e)) (hm : d ∈ l) : (d.weights P e).all (· ≤ reachBytes) = true := by
  rw [List.all_eq_true] at h ⊢
  intro q hq
  exact h q (DataW.weights_mem_each ht hd q (weights_slice_mem hu hm hq))
theorem nums_lt {W : World} {a : Option Addr} {cs : List Int} (h : Nums W a cs) : ∀ x, a = some x → 0 < cs.length → x.block < W.heap.size := by
  intro x hx h0
  rcases h with ⟨h, _⟩ | ⟨y, hy, hc⟩
  · rw [h] at hx; cases hx
  · rw [hx] at hy
    cases hy
    have := World.block_lt_of_cell? W _ (hc 0 h0)
    simpa [Addr.add] using this
set_option maxRecDepth 100000 in
theorem open_opy {H : Type} {enc : TypeId × Value → H} {W : World} {fuel : Nat} {cs : List Value} {y : DataW H × List MemPlace} (hf : DataW.trod enc Try.prog W 0 (fun _ => true) true fuel 46 cs = some y) (hsz : (y.1.weights Try.prog 46).all (· ≤ reachBytes) = true) :
    ∃ o : Oy, cs = o.row ∧ Oin W W.heap.size o := by
  obtain ⟨xs, n, _, hx, hl, hlen, hff⟩ := DataW.trod_struct Try.underlying46 hf
  have hc : Try.prog.cellsOf 46 = 7 := by kernel_rfl
  have c3 : Try.prog.cellsOf 3 = 1 := by kernel_rfl
  have c9 : Try.prog.cellsOf 9 = 1 := by kernel_rfl
  have c32 : Try.prog.cellsOf 32 = 1 := by kernel_rfl
  have c23 : Try.prog.cellsOf 23 = 1 := by kernel_rfl
  have c4 : Try.prog.cellsOf 4 = 1 := by kernel_rfl
  rw [hc] at hl
  obtain ⟨a0, a1, a2, a3, a4, a5, a6, rfl⟩ := seven2 hl
  match xs, hlen with
  | [y0, y1, y2, y3, y4, y5, y6], _ =>
    have t0 := hff 0 _ rfl
    have t1 := hff 1 _ rfl
    have t2 := hff 2 _ rfl
    have t3 := hff 3 _ rfl
    have t4 := hff 4 _ rfl
    have t5 := hff 5 _ rfl
    have t6 := hff 6 _ rfl
    simp [c3, c9, c32, c23, c4] at t0 t1 t2 t3 t4 t5 t6
    have hs7 : (DataW.weightsEach Try.prog [3, 9, 9, 3, 32, 23, 4] [y0.1, y1.1, y2.1, y3.1, y4.1, y5.1, y6.1]).all (· ≤ reachBytes) = true := by
      rw [hx] at hsz
      rw [DataW.weights, Try.underlying46] at hsz
      exact hsz
    obtain ⟨kd, e0, _, w0⟩ := DataW.trod_int Try.underlying3 t0
    obtain ⟨nm, e1, _, w1⟩ := DataW.trod_string Try.underlying9 t1
    obtain ⟨tt, e2, _, w2⟩ := DataW.trod_string Try.underlying9 t2
    obtain ⟨nn, e3, _, w3⟩ := DataW.trod_int Try.underlying3 t3
    obtain ⟨a, len, cap, zs, B4⟩ := open_bytes t4 (j := 4) hs7 rfl rfl
    obtain ⟨ca, cn, cc, cs, B5⟩ := open_nums t5 (j := 5) hs7 rfl rfl
    obtain ⟨on, e6, _⟩ := DataW.trod_bool Try.underlying4 t6
    have b3 := bounds_i64 w3
    obtain rfl := B4.val
    obtain rfl := B5.val
    simp at e0 e1 e2 e3 e6
    subst e0 e1 e2 e3 e6
    have f4 := B4.few
    have g4 := B4.fits
    have f5 := B5.few
    have g5 := B5.fits
    refine ⟨⟨kd, nm, tt, nn, a, len, cap, zs, ca, cn, cc, cs, on⟩, rfl, ⟨w1, w2, b3.1, (by omega : nn ≤ 9223372036854775807), B4.len, B4.has, B4.oct, B4.bare, fun x hx h0 => B4.has.lt x hx (by rw [B4.len]; exact h0), (by omega : len ≤ 140737488351232), B5.len, B5.has, B5.rng, B5.bare, fun x hx h0 => nums_lt B5.has x hx (by rw [B5.len]; exact h0), (by omega : cn ≤ 17592186043904)⟩⟩
set_option maxRecDepth 100000 in
theorem open_opys {H : Type} {enc : TypeId × Value → H} {W : World} {fuel : Nat} {v : Value} {y : DataW H × List MemPlace} {ts : List TypeId} {ds : List (DataW H)} {j : Nat}
    (hf : DataW.trod enc Try.prog W 0 (fun _ => true) true fuel 22 [v] = some y) (hsz : (DataW.weightsEach Try.prog ts ds).all (· ≤ reachBytes) = true) (ht : ts[j]? = some 22) (hd : ds[j]? = some y.1) :
    ∃ a len cap, v = .slice a len cap ∧ len ≤ 140737488351232 ∧ ∃ os : List Oy, os.length = len ∧ Sin W W.heap.size a os := by
  rcases DataW.trod_slice Try.underlying22 hf with ⟨hcs, hx⟩ | ⟨x, l, c, elems, rest, n, _, hcs, hx, _, hl, hm, hlen, hel, _⟩
  · simp at hcs
    exact ⟨none, 0, 0, hcs, by omega, [], rfl, ⟨fun s h => (by cases h), .inl rfl⟩⟩
  · simp at hcs
    subst hx
    have hs := sized_slice hsz (j := j) (t := 22) (e := 46) ht hd Try.underlying22
    have b46 : Try.prog.bytesOf 46 = 104 := by kernel_rfl
    rw [b46] at hs
    simp only [List.length_map, reachBytes] at hs
    have c46 : Try.prog.cellsOf 46 = 7 := by kernel_rfl
    rw [c46] at hel
    have each : ∀ i, i < l → ∃ o : Oy, W.cells? 0 (x.add (i * 7)) 7 = some o.row ∧ Oin W W.heap.size o := by
      intro i hi
      have he := hel i hi
      obtain ⟨e, hee⟩ : ∃ e, elems[i]? = some e := ⟨elems[i]'(by omega), List.getElem?_eq_getElem _⟩
      rw [hee, Option.bind_eq_some_iff] at he
      obtain ⟨cs', hcs', hy⟩ := he
      have hw : (e.1.weights Try.prog 46).all (· ≤ reachBytes) = true := elem_weights (l := elems.map (·.1)) (r := rest.map (·.1)) hsz ht hd Try.underlying22 (List.mem_map.2 ⟨e, List.mem_of_getElem? hee, rfl⟩)
      obtain ⟨o, rfl, hB⟩ := open_opy hy hw
      exact ⟨o, hcs', hB⟩
    obtain ⟨os, hsl, hss⟩ := pick_list2 _ l each
    refine ⟨some x, l, c, hcs, by omega, os, hsl, ⟨fun s hs => ?_, ?_⟩⟩
    · obtain ⟨i, hi⟩ := List.getElem?_of_mem hs
      exact (hss i s hi).2
    · by_cases h0 : os = []
      · exact .inl h0
      · have hp : 0 < os.length := List.length_pos_iff.2 h0
        have hcell : ∀ (i : Nat) (s : Oy), os[i]? = some s → ∀ (j : Nat) (u : Value), s.row[j]? = some u → W.cell? ((x.add (i * 7)).add j) = some u := fun i s hi j u hu => by
          have hh := (hss i s hi).1
          have hj : j < 7 := by have := (List.getElem?_eq_some_iff.1 hu).1; simpa [Oy.row] using this
          have := (World.cells?_some hh).2.2 j hj
          rw [this]; exact hu
        have hspot : x.spot = none := by
          have := hcell 0 os[0] (List.getElem?_eq_getElem hp) 0 _ rfl
          have := World.cell?_spot this
          simpa [Addr.add] using this
        have hblk : x.block < W.heap.size := by
          have := World.block_lt_of_cell? W _ (hcell 0 os[0] (List.getElem?_eq_getElem hp) 0 _ rfl)
          simpa [Addr.add] using this
        obtain ⟨b, off, spot⟩ := x
        subst hspot
        refine .inr ⟨b, off, rfl, hblk, fun i s hi j u hu => ?_⟩
        have := hcell i s hi j u hu
        rwa [Go.WideShapes.add_plain, Go.WideShapes.add_plain] at this
set_option maxRecDepth 100000 in
theorem diskLasts_lifted (os : Os) (started : os.Started) (H : Type) (enc : TypeId × Value → H) :
    ReturnsInHanded {} Try.checked os 3 .any (Rows.diskLastsSpec.pre6 enc Try.prog Try.f3 Rows.diskLastsRow.domain false) (Rows.diskLastsSpec.post enc Try.prog Try.f3 false true false false) := by
  refine returnsInHanded_of_change_sized (C := Try.checked) own started (by kernel_rfl) Try.func3
    (ChangeSpec.witness6 (enc := enc) (C := Try.checked) false ⟨#[], #[.int .i64 0, .slice none 0 0, .slice none 0 0], []⟩ 8 (by kernel_rfl) (by kernel_rfl) (by kernel_rfl) (by kernel_rfl)) ?_
  intro W base args ds gs before hval0 hW _ hsz0 _
  have hsz : (DataW.weightsEach Try.prog (Try.f3.params.toList ++ Rows.diskLastsSpec.plain.varTypes Try.prog) (ds ++ gs)).all (· ≤ reachBytes) = true := hsz0
  clear hsz0
  have hval : ∀ (j : Nat) t v, Try.f3.params[j]? = some t → args[j]? = some v → Value.okWide Try.prog W .any base t v := hval0
  have hW' := hW
  obtain ⟨p, q, hA0, hV, rfl, hfz, hnd⟩ := hW
  have hA : DataW.TrodAll enc Try.prog W 0 (fun _ => true) true Try.f3.params.toList args.toList ds p := hA0
  rw [Try.params3] at hA hval hsz
  obtain ⟨v0, vs0, d0, ds0, p0, q0, hargs, rfl, rfl, h0, r0⟩ := trodAll_cons hA
  obtain ⟨v1, vs1, d1, ds1, p1, q1, rfl, rfl, rfl, h1, r1⟩ := trodAll_cons r0
  obtain ⟨v2, vs2, d2, ds2, p2, q2, rfl, rfl, rfl, h2, r2⟩ := trodAll_cons r1
  obtain ⟨rfl, rfl, rfl⟩ := trodAll_nil r2
  obtain rfl : args = #[v0, v1, v2] := by cases args; simp_all
  obtain ⟨rfl, rfl⟩ := trodVars_none hV
  obtain ⟨room, rfl, rfl, rfl, w0⟩ := open_int Try.underlying3 (hval 0 3 v0 rfl rfl) h0
  have b0 := bounds_i64 w0
  obtain ⟨a1, len1, cap1, rfl⟩ := okWide_slice Try.underlying22 (hval 1 22 v1 rfl rfl)
  have k1 := h1
  have lt1 : ∀ x ∈ p1, x.block < W.heap.size := by obtain ⟨m, hm⟩ := k1; exact DataW.trod_lt m _ _ _ hm
  obtain ⟨m1, hf1⟩ := h1
  obtain ⟨a1', len1', cap1', e1, hl1, ops, hol, hSin⟩ := open_opys hf1 (j := 1) hsz rfl rfl
  cases e1
  obtain ⟨a2, len2, cap2, rfl⟩ := okWide_slice Try.underlying23 (hval 2 23 v2 rfl rfl)
  have k2 := h2
  have lt2 : ∀ x ∈ p2, x.block < W.heap.size := by obtain ⟨m, hm⟩ := k2; exact DataW.trod_lt m _ _ _ hm
  obtain ⟨m2, hf2⟩ := h2
  obtain ⟨a2', n2, c2, cs, B2⟩ := open_nums hf2 (j := 2) hsz rfl rfl
  cases B2.val
  have f2 := B2.few
  have g2 := B2.fits
  clear hA0 hval0
  refine (lasts_any W room (by omega) a1 len1 cap1 ops hol hl1 hSin a2 len2 cap2 cs B2.len B2.has B2.rng B2.bare (by omega)).mono fun e W' ⟨he, bel⟩ => ?_
  subst he
  exact ⟨_, rfl, _, _, _, [], _, [], hW', trodAll_mk1 (shut_bool Try.underlying4 _), (trodAll_cons_mk (shut_int Try.underlying3 w0) (trodAll_cons_mk (Below.trod laidOut (by kernel_rfl) (of_decide_eq_true (by kernel_rfl)) k1 bel lt1) (trodAll_cons_mk (Below.trod laidOut (by kernel_rfl) (of_decide_eq_true (by kernel_rfl)) k2 bel lt2) trodAll_mk0))), rfl, bel.frame _, fun h => by cases h⟩

theorem diskLasts_holds : Rows.DiskLastsSaid :=
  OpenClaim.holds_of_wide 3 Try.f3 rfl rfl rfl rfl rfl rfl rfl ⟨rfl, rfl, rfl, rfl, rfl⟩ rfl rfl rfl rfl rfl (by kernel_rfl) Try.func3 (by kernel_rfl)
    (of_decide_eq_true (by kernel_rfl)) (by unfold Func.isWrapper; first | (rw [if_pos (by decide +kernel)]; kernel_rfl) | (rw [if_neg (by decide +kernel)]; exact ⟨rfl, rfl⟩))
    (fun os started H enc _ => diskLasts_lifted os started H enc)
#print axioms diskLasts_holds
end Go.Proofs.Ytkmohpdcchpndaa
