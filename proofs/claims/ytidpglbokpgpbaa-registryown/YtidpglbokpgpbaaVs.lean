/- Views that are written over. -/
import Derived.Test.YtidpglbokpgpbaaOw
import Derived.Test.YtidpglbokpgpbaaEk
import Derived.Laws.IdiomStrings
namespace Go.Proofs.Ytidpglbokpgpbaa
open Go.RowKit
set_option linter.unusedVariables false
set_option linter.unusedSimpArgs false
theorem tmod26 (k : Nat) : (k : Int).tmod 26 = ((k % 26 : Nat) : Int) := by
  rw [Int.tmod_eq_emod_of_nonneg (by omega)]
  omega
theorem wrapU8 (n : Nat) (h : n < 256) : IntKind.u8.wrap (n : Int) = n := by
  simp [IntKind.wrap, IntKind.bits, IntKind.signed]
  omega
theorem wrapI (n : Nat) (h : n < 256) : IntKind.i64.wrap (n : Int) = n := by
  simp [IntKind.wrap, IntKind.bits, IntKind.signed]
  omega
/-- the text of two letters -/
def txAB (A B : Nat) : ByteArray := ⟨#[UInt8.ofNat A, UInt8.ofNat B]⟩
def txT (k m : Nat) : ByteArray := txAB (97 + k % 26) (97 + m % 26)
theorem tx_ok (A B : Nat) : okS (txAB A B) := by unfold okS txAB; show (#[UInt8.ofNat A, UInt8.ofNat B] : Array UInt8).size ≤ _; simp
theorem conv2 (W : World) (g A B : Nat) (hA : A < 256) (hB : B < 256) (h0 : W.cell? ⟨g, 0, none⟩ = some (.int .u8 A)) (h1 : W.cell? ⟨g, 1, none⟩ = some (.int .u8 B)) : (convert 51 9 (.slice (some ⟨g, 0, none⟩) 2 2)).run Try.prog W = .ok (.string (txAB A B)) W := by
  have := run_convert_bytes_back (P := Try.prog) W 51 9 5 ⟨g, 0, none⟩ 2 [UInt8.ofNat A, UInt8.ofNat B] Try.underlying51 Try.underlying5 Try.underlying9 (fun j hj => by
    have eA : (UInt8.ofNat A).toNat = A := by simp; omega
    have eB : (UInt8.ofNat B).toNat = B := by simp; omega
    rcases (by simp at hj; omega : j = 0 ∨ j = 1) with rfl | rfl
    · simp only [List.getElem_cons_zero, eA]; exact h0
    · simp only [List.getElem_cons_succ, List.getElem_cons_zero, eB]; exact h1)
  exact this
theorem lt_cell {W : World} {p : Addr} {v : Value} (h : W.cell? p = some v) : p.block < W.heap.size := World.block_lt_of_cell? W _ h
theorem frozen_al {W : World} {ob : Obj} {p : Addr} (hl : p.block < W.heap.size) (h : W.frozen? p = false) : (W.alloc ob).frozen? p = false := by
  have e : (W.alloc ob).heap[p.block]? = W.heap[p.block]? := Below.heap_alloc W ob _ hl
  simp only [World.frozen?] at h ⊢
  rw [e]; exact h
/-- what may be written over: the blocks from p to q, from r to s, and those made since -/
def Wri (p q r s : Nat) (A : World) (g : Nat) : Prop := (p ≤ g ∧ g < q) ∨ (r ≤ g ∧ g < s) ∨ A.heap.size ≤ g
/-- the rest is as it was -/
structure Spo (p q r s : Nat) (A W : World) : Prop where
  os : W.os = A.os
  tape : W.tape = A.tape
  output : W.output = A.output
  size : A.heap.size ≤ W.heap.size
  old : ∀ k, k < A.heap.size → ¬ Wri p q r s A k → W.heap[k]? = A.heap[k]?
theorem Spo.refl (p q r s : Nat) (A : World) : Spo p q r s A A := ⟨rfl, rfl, rfl, Nat.le_refl _, fun _ _ _ => rfl⟩
theorem Spo.but {p q r s : Nat} {A W W' : World} (h : Spo p q r s A W) {g : Nat} (hg : Wri p q r s A g) (hb : But g W W') : Spo p q r s A W' :=
  ⟨hb.os.trans h.os, hb.tape.trans h.tape, hb.output.trans h.output, Nat.le_trans h.size hb.size, fun k hk hn => (hb.block k (Nat.lt_of_lt_of_le hk h.size) (fun e => hn (e ▸ hg))).trans (h.old k hk hn)⟩
theorem Spo.below {p q r s : Nat} {A W W' : World} (h : Spo p q r s A W) (hb : Below W.heap.size W W') : Spo p q r s A W' :=
  ⟨hb.os.trans h.os, hb.tape.trans h.tape, hb.output.trans h.output, Nat.le_trans h.size hb.size, fun k hk hn => (hb.block k (Nat.lt_of_lt_of_le hk h.size)).trans (h.old k hk hn)⟩
theorem Spo.under {p q r s : Nat} {A W : World} (h : Spo p q r s A W) (h1 : p ≤ r) (h2 : p ≤ A.heap.size) : Below p A W :=
  ⟨h.os, h.tape, h.output, h.size, fun k hk => h.old k (by omega) (by unfold Wri; omega)⟩
theorem But.app {w w3 : World} {mm g : Nat} {v : Value} {ob : Obj} (hg : ((w.alloc ob).drewN mm).grownBy w3 v.ownBlock) (hv : ∀ k, v.ownBlock = some k → k = g) : But g w w3 :=
  ⟨hg.os, hg.tape, hg.output, Nat.le_trans (by simp) hg.size, fun k hk hne => (hg.block k (by simp; omega) (fun e => hne (hv k e.symm))).trans (Below.heap_alloc w ob k hk)⟩
/-- a list's cells -/
theorem own_at {w : World} {base : Nat} {ao : Option Addr} {n c : Nat} {L : List ByteArray} (hn : L.length = n) (h : w.ownsRow base 9 1 (.slice ao n c) n (rowsOf strR L)) {m : Nat} (hm : m < n) : ∃ g, ao = some ⟨g, 0, none⟩ ∧ base ≤ g ∧ (∀ s, L[m]? = some s → w.cell? ⟨g, m, none⟩ = some (.string s)) ∧ ∀ o, w.frozen? ⟨g, o, none⟩ = false := by
  have hc := own_cel strR 1 strR_len (by decide) h
  rcases h.2 with ⟨h1, h2⟩ | ⟨g, cap, cur, e, hb, hw, _⟩
  · omega
  · injection e with e
    refine ⟨g, e, hb, fun s hs => ?_, fun o => by simp [World.frozen?, hw]⟩
    obtain ⟨g', off, e', hx⟩ := hc.at_ hs
    rw [e] at e'
    cases e'
    have := hx 0 _ rfl
    rw [Nat.add_zero, Nat.mul_one, Nat.zero_add] at this
    exact this
theorem rowsOf_str (L : List ByteArray) : rowsOf strR L = L.map Value.string := by
  induction L with
  | nil => rfl
  | cons a l ih => simp only [rowsOf, List.flatMap_cons, List.map_cons] at ih ⊢; rw [ih]; rfl
/-- a list whose own cell is written over -/
theorem own_put {w : World} {base : Nat} {g n c : Nat} {L : List ByteArray} (h : w.ownsRow base 9 1 (.slice (some ⟨g, 0, none⟩) n c) n (rowsOf strR L)) (m : Nat) (s : ByteArray) : (w.setCell ⟨g, m, none⟩ (.string s)).ownsRow base 9 1 (.slice (some ⟨g, 0, none⟩) n c) n (rowsOf strR (L.set m s)) := by
  obtain ⟨hl, h | ⟨g', cap, cur, e, hb, hw, h1, h2, h3, h4⟩⟩ := h
  · exact absurd h.1 (by simp)
  · cases e
    refine ⟨?_, .inr ⟨g, c, cur.setIfInBounds m (.string s), rfl, hb, set_blk hw m _, h1, h2, by simp [h3], ?_⟩⟩
    · rw [rowsOf_str] at hl ⊢; simpa using hl
    · rw [rowsOf_str] at h4 ⊢
      rw [Array.toList_setIfInBounds, List.take_set, h4, List.map_set]
/-- a view, its lists apart and below q -/
structure Vs (W : World) (p q : Nat) (va : Option Addr) (n vc : Nat) (os : List Hx) : Prop where
  ov : Ov W p 47 (.slice va n vc) os
  len : os.length = n
  apt : Apt os
  ub : ∀ o ∈ os, ∀ k, blkO o = some k → k < q
  rb : ∀ k, (Value.slice va n vc).ownBlock = some k → k < q
theorem Vs.below {W W' : World} {p q : Nat} {va : Option Addr} {n vc : Nat} {os : List Hx} (h : Vs W p q va n vc os) (hb : Below W.heap.size W W') : Vs W' p q va n vc os := ⟨h.ov.below hb, h.len, h.apt, h.ub, h.rb⟩
theorem rows_same {os ps : List Hx} (hl : os.length = ps.length) (h : ∀ (i : Nat) (o p : Hx), os[i]? = some o → ps[i]? = some p → o.row = p.row) : rowsOf Hx.row os = rowsOf Hx.row ps := by
  have : os.map Hx.row = ps.map Hx.row := by
    apply List.ext_getElem?
    intro i
    simp only [List.getElem?_map]
    rcases ho : os[i]? with _ | o
    · have := List.getElem?_eq_none_iff.1 ho
      rw [List.getElem?_eq_none_iff.2 (by omega : ps.length ≤ i)]
    · have hi := (List.getElem?_eq_some_iff.1 ho).1
      have hp : ps[i]? = some ps[i] := List.getElem?_eq_getElem (by omega)
      rw [hp, Option.map_some, Option.map_some, h i o _ ho hp]
  unfold rowsOf
  rw [List.flatMap_def, List.flatMap_def, this]
def putE (o : Hx) (m : Nat) (s : ByteArray) : Hx := { o with eps := o.eps.set m s }
theorem putE_row (o : Hx) (m : Nat) (s : ByteArray) : (putE o m s).row = o.row := by unfold putE Hx.row; simp
theorem putE_blk (o : Hx) (m : Nat) (s : ByteArray) : blkO (putE o m s) = blkO o := by unfold putE blkO; simp
theorem Vs.put {W : World} {p q : Nat} {va : Option Addr} {n vc : Nat} {os : List Hx} (h : Vs W p q va n vc os) {k m g : Nat} {o : Hx} (hk : os[k]? = some o) (hm : m < o.eps.length) (he : o.ea = some ⟨g, 0, none⟩) (s : ByteArray) (hs : okS s) :
    Vs (W.setCell ⟨g, m, none⟩ (.string s)) p q va n vc (os.set k (putE o m s)) := by
  have hbut : But g W (W.setCell ⟨g, m, none⟩ (.string s)) := But.set _ _
  have hkl := (List.getElem?_eq_some_iff.1 hk).1
  have hmem := List.mem_of_getElem? hk
  have ho := h.ov.each o hmem
  have hgb : blkO o = some g := by unfold blkO; rw [he]; rfl
  obtain ⟨cs, hcs⟩ := own_cells ho.own g hgb
  have hget : ∀ (j : Nat) (x : Hx), (os.set k (putE o m s))[j]? = some x → (j = k ∧ x = putE o m s) ∨ (j ≠ k ∧ os[j]? = some x) := by
    intro j x hj
    by_cases e : j = k
    · subst e
      rw [List.getElem?_set_self hkl] at hj
      injection hj with hj
      exact .inl ⟨rfl, hj.symm⟩
    · rw [List.getElem?_set_ne (Ne.symm e)] at hj
      exact .inr ⟨e, hj⟩
  have hb0 : ∀ (j : Nat) (x : Hx), (os.set k (putE o m s))[j]? = some x → ∃ y, os[j]? = some y ∧ blkO x = blkO y := by
    intro j x hj
    rcases hget j x hj with ⟨rfl, rfl⟩ | ⟨_, hx⟩
    · exact ⟨o, hk, putE_blk _ _ _⟩
    · exact ⟨x, hx, rfl⟩
  refine ⟨⟨?_, fun x hx => ?_, by simpa using h.ov.le⟩, by simpa using h.len, ?_, fun x hx j hj => ?_, h.rb⟩
  · rw [List.length_set, rows_same (ps := os) (by simp) (fun j x y hx hy => by
      rcases hget j x hx with ⟨rfl, rfl⟩ | ⟨_, hx⟩
      · rw [hk] at hy; cases hy; exact putE_row _ _ _
      · rw [hx] at hy; cases hy; rfl)]
    exact hbut.own h.ov.row hcs (by decide)
  · obtain ⟨j, hj⟩ := List.getElem?_of_mem hx
    rcases hget j x hj with ⟨rfl, rfl⟩ | ⟨hjk, hj⟩
    · refine ⟨?_, ?_, fun t ht => ?_, ho.sz⟩
      · have h1 := ho.own
        rw [he] at h1
        have h2 := own_put h1 m s
        show (W.setCell ⟨g, m, none⟩ (.string s)).ownsRow p 9 1 (.slice o.ea (o.eps.set m s).length o.ec) (o.eps.set m s).length (rowsOf strR (o.eps.set m s))
        rw [he, List.length_set]
        exact h2
      · show (o.eps.set m s).length ≤ _
        rw [List.length_set]; exact ho.le
      · have ht : t ∈ o.eps.set m s := ht
        rcases List.mem_or_eq_of_mem_set ht with ht | rfl
        · exact ho.ok t ht
        · exact hs
    · have hxo := h.ov.each x (List.mem_of_getElem? hj)
      refine ⟨own_blk' hxo.own (fun kk hkk => hbut.block kk (hxo.own.lt kk hkk).2 (fun e => ?_)), hxo.le, hxo.ok, hxo.sz⟩
      subst e
      rcases Nat.lt_or_gt_of_ne hjk with hlt | hlt
      · exact h.apt j k x o hlt hj hk kk hkk hgb
      · exact h.apt k j o x hlt hk hj kk hgb hkk
  · intro i j x y hij hx hy kk hkk
    obtain ⟨x', hx', ex⟩ := hb0 i x hx
    obtain ⟨y', hy', ey⟩ := hb0 j y hy
    rw [ex] at hkk
    rw [ey]
    exact h.apt i j x' y' hij hx' hy' kk hkk
  · obtain ⟨i, hi⟩ := List.getElem?_of_mem hx
    obtain ⟨y, hy, e⟩ := hb0 i x hi
    rw [e] at hj
    exact h.ub y (List.mem_of_getElem? hy) j hj
end Go.Proofs.Ytidpglbokpgpbaa
