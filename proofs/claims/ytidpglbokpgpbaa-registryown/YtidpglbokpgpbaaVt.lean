/- Views that are written over: step by step. -/
import Derived.Test.YtidpglbokpgpbaaVs
namespace Go.Proofs.Ytidpglbokpgpbaa
open Go.RowKit
set_option linter.unusedVariables false
set_option linter.unusedSimpArgs false
/-- lists written over up to the k-th -/
structure In1 (p q r s : Nat) (A W : World) (va : Option Addr) (n vc k : Nat) (qs : List Hx) : Prop where
  vs : Vs W p q va n vc qs
  done : ∀ (k' m' : Nat) o, k' < k → qs[k']? = some o → m' < o.eps.length → o.eps[m']? = some (txT k' m')
  sp : Spo p q r s A W
/-- and of the k-th all up to the m-th -/
structure In2 (p q r s : Nat) (A W : World) (va : Option Addr) (n vc k m l : Nat) (oa : Option Addr) (oc : Nat) (qs : List Hx) (o : Hx) : Prop where
  i1 : In1 p q r s A W va n vc k qs
  hk : qs[k]? = some o
  ea : o.ea = oa
  ec : o.ec = oc
  len : o.eps.length = l
  pre : ∀ m' : Nat, m' < m → o.eps[m']? = some (txT k m')
theorem In2.start {p q r s : Nat} {A W : World} {va : Option Addr} {n vc k : Nat} {qs : List Hx} {o : Hx} (h : In1 p q r s A W va n vc k qs) (hk : qs[k]? = some o) : In2 p q r s A W va n vc k 0 o.eps.length o.ea o.ec qs o := ⟨h, hk, rfl, rfl, rfl, fun m' h => by omega⟩
theorem In2.own {p q r s : Nat} {A W : World} {va : Option Addr} {n vc k m l : Nat} {oa : Option Addr} {oc : Nat} {qs : List Hx} {o : Hx} (h : In2 p q r s A W va n vc k m l oa oc qs o) : W.ownsRow p 9 1 (.slice oa l oc) l (rowsOf strR o.eps) := by
  have := (h.i1.vs.ov.each o (List.mem_of_getElem? h.hk)).own
  rw [h.len, h.ea, h.ec] at this
  exact this
theorem In2.cell {p q r s : Nat} {A W : World} {va : Option Addr} {n vc k m l : Nat} {oa : Option Addr} {oc : Nat} {qs : List Hx} {o : Hx} (h : In2 p q r s A W va n vc k m l oa oc qs o) : ∃ g off, va = some ⟨g, off, none⟩ ∧ W.cell? ⟨g, off + k * 2 + 1, none⟩ = some (.slice oa l oc) := by
  obtain ⟨g, off, e, -, d1⟩ := h.i1.vs.ov.at_ h.hk
  rw [h.len, h.ea, h.ec] at d1
  exact ⟨g, off, e, d1⟩
theorem In2.at_ {p q r s : Nat} {A W : World} {va : Option Addr} {n vc k m l : Nat} {oa : Option Addr} {oc : Nat} {qs : List Hx} {o : Hx} (h : In2 p q r s A W va n vc k m l oa oc qs o) (hm : m < l) : ∃ g t, oa = some ⟨g, 0, none⟩ ∧ W.cell? ⟨g, m, none⟩ = some (.string t) ∧ ∀ x, W.frozen? ⟨g, x, none⟩ = false := by
  obtain ⟨g, e, _, hc, hz⟩ := own_at h.len h.own hm
  exact ⟨g, _, e, hc _ (List.getElem?_eq_getElem (by have := h.len; omega)), hz⟩
theorem In2.step {p q r s : Nat} {A W : World} {va : Option Addr} {n vc k m l : Nat} {g oc : Nat} {qs : List Hx} {o : Hx} (h : In2 p q r s A W va n vc k m l (some ⟨g, 0, none⟩) oc qs o) (hm : m < l) (ob : Obj) :
    ∃ qs' o', In2 p q r s A (((W.alloc ob).setCell ⟨g, m, none⟩ (.string (txT k m))).drewN 1) va n vc k (m + 1) l (some ⟨g, 0, none⟩) oc qs' o' := by
  have hkl := (List.getElem?_eq_some_iff.1 h.hk).1
  have hl := h.len
  have hv := (h.i1.vs.below (Gr.alloc W ob).below).put (m := m) h.hk (by omega) h.ea (txT k m) (tx_ok _ _)
  have hv2 := hv.below (Gr.drewN _ 1).below
  have hg : p ≤ g ∧ g < q := by
    obtain ⟨g', e, hb, _⟩ := own_at h.len h.own hm
    cases e
    exact ⟨hb, h.i1.vs.ub o (List.mem_of_getElem? h.hk) g (by unfold blkO; rw [h.ea]; rfl)⟩
  refine ⟨qs.set k (putE o m (txT k m)), putE o m (txT k m), ⟨hv2, fun k' m' x hk' hx => ?_, ?_⟩, ?_, h.ea, h.ec, ?_, fun m' hm' => ?_⟩
  · rw [List.getElem?_set_ne (by omega)] at hx
    exact h.i1.done k' m' x hk' hx
  · exact ((h.i1.sp.below (Gr.alloc W ob).below).but (.inl hg) (But.set m _)).below (Gr.drewN _ 1).below
  · exact List.getElem?_set_self hkl
  · show (o.eps.set m (txT k m)).length = l
    rw [List.length_set]; exact hl
  · show (o.eps.set m (txT k m))[m']? = some (txT k m')
    by_cases e : m' = m
    · subst e; exact List.getElem?_set_self (by omega)
    · rw [List.getElem?_set_ne (Ne.symm e)]
      exact h.pre m' (by omega)
theorem In2.stop {p q r s : Nat} {A W : World} {va : Option Addr} {n vc k l : Nat} {oa : Option Addr} {oc : Nat} {qs : List Hx} {o : Hx} (h : In2 p q r s A W va n vc k l l oa oc qs o) : In1 p q r s A W va n vc (k + 1) qs := by
  refine ⟨h.i1.vs, fun k' m' x hk' hx hm' => ?_, h.i1.sp⟩
  by_cases e : k' = k
  · subst e
    rw [h.hk] at hx; cases hx
    exact h.pre m' (by have := h.len; omega)
  · exact h.i1.done k' m' x (by omega) hx hm'
/-- a row's own cell written over -/
theorem own_putV {w : World} {base : Nat} {e : TypeId} {size : Nat} {g n c : Nat} {xs : List Value} (h : w.ownsRow base e size (.slice (some ⟨g, 0, none⟩) n c) n xs) (j : Nat) (u : Value) : (w.setCell ⟨g, j, none⟩ u).ownsRow base e size (.slice (some ⟨g, 0, none⟩) n c) n (xs.set j u) := by
  obtain ⟨hl, h | ⟨g', cap, cur, e', hb, hw, h1, h2, h3, h4⟩⟩ := h
  · exact absurd h.1 (by simp)
  · cases e'
    refine ⟨by simpa using hl, .inr ⟨g, c, cur.setIfInBounds j u, rfl, hb, set_blk hw j _, h1, h2, by simp [h3], ?_⟩⟩
    rw [Array.toList_setIfInBounds, List.take_set, h4]
/-- what is read while lists are held against what was written, and then spoilt -/
structure In3 (p q r s : Nat) (A W : World) (va : Option Addr) (n vc k : Nat) (qs : List Hx) : Prop where
  row : ∃ xs : List Value, W.ownsRow p 47 2 (.slice va n vc) n xs ∧ ∀ (j : Nat) o, k ≤ j → qs[j]? = some o → xs[j * 2]? = some (.string o.sv) ∧ xs[j * 2 + 1]? = some (.slice o.ea o.eps.length o.ec)
  each : ∀ (j : Nat) o, k ≤ j → qs[j]? = some o → Oh W p o
  sp : Spo p q r s A W
/-- what stays so of the lists -/
structure Qs (q n : Nat) (va : Option Addr) (vc : Nat) (qs : List Hx) : Prop where
  len : qs.length = n
  apt : Apt qs
  ub : ∀ o ∈ qs, ∀ k, blkO o = some k → k < q
  rb : ∀ k, (Value.slice va n vc).ownBlock = some k → k < q
  tx : ∀ (k m : Nat) o, qs[k]? = some o → m < o.eps.length → o.eps[m]? = some (txT k m)
theorem In1.stop {p q r s : Nat} {A W : World} {va : Option Addr} {n vc : Nat} {qs : List Hx} (h : In1 p q r s A W va n vc n qs) : Qs q n va vc qs ∧ In3 p q r s A W va n vc 0 qs := by
  refine ⟨⟨h.vs.len, h.vs.apt, h.vs.ub, h.vs.rb, fun k m o hk hm => h.done k m o (by have := (List.getElem?_eq_some_iff.1 hk).1; have := h.vs.len; omega) hk hm⟩, ⟨rowsOf Hx.row qs, ?_, fun j o _ hj => ?_⟩, fun j o _ hj => h.vs.ov.each o (List.mem_of_getElem? hj), h.sp⟩
  · have := h.vs.ov.row
    rw [h.vs.len] at this
    exact this
  · have h0 := rowsOf_at Hx.row 2 hx_len qs j o hj 0 _ rfl
    have h1 := rowsOf_at Hx.row 2 hx_len qs j o hj 1 _ rfl
    rw [Nat.add_zero] at h0
    exact ⟨h0, h1⟩
theorem In3.below {p q r s : Nat} {A W W' : World} {va : Option Addr} {n vc k : Nat} {qs : List Hx} (h : In3 p q r s A W va n vc k qs) (hb : Below W.heap.size W W') : In3 p q r s A W' va n vc k qs := by
  obtain ⟨xs, h1, h2⟩ := h.row
  exact ⟨⟨xs, own_stay h1 hb, h2⟩, fun j o hk hj => (h.each j o hk hj).below hb, h.sp.below hb⟩
/-- the k-th, as it is read -/
theorem In3.at_ {p q r s : Nat} {A W : World} {va : Option Addr} {n vc k : Nat} {qs : List Hx} (h : In3 p q r s A W va n vc k qs) {o : Hx} (hk : qs[k]? = some o) (hn : k < n) : ∃ g, va = some ⟨g, 0, none⟩ ∧ W.cell? ⟨g, k * 2, none⟩ = some (.string o.sv) ∧ W.cell? ⟨g, k * 2 + 1, none⟩ = some (.slice o.ea o.eps.length o.ec) ∧ ∀ x, W.frozen? ⟨g, x, none⟩ = false := by
  obtain ⟨xs, h1, h2⟩ := h.row
  obtain ⟨e0, e1⟩ := h2 k o (Nat.le_refl _) hk
  obtain ⟨g, rfl⟩ := own_some h1 (by omega)
  have c0 := h1.cells rfl (k * 2) _ e0
  have c1 := h1.cells rfl (k * 2 + 1) _ e1
  rw [Go.WideShapes.add_plain, Nat.zero_add] at c0 c1
  refine ⟨g, rfl, c0, c1, fun x => ?_⟩
  obtain ⟨cs, hcs⟩ := own_cells h1 g rfl
  simp [World.frozen?, hcs]
/-- the k-th list has grown, and its row says so -/
theorem In3.step {p q r s : Nat} {A W W2 : World} {g n vc k mm : Nat} {qs : List Hx} (h : In3 p q r s A W (some ⟨g, 0, none⟩) n vc k qs) (hq : Qs q n (some ⟨g, 0, none⟩) vc qs) {o : Hx} (hk : qs[k]? = some o) {ob : Obj} (hg : ((W.alloc ob).drewN mm).grownBy W2 (Value.slice o.ea o.eps.length o.ec).ownBlock) (u v : Value) :
    (W2.cell? ⟨g, k * 2 + 1, none⟩ = some (.slice o.ea o.eps.length o.ec) ∧ W2.cell? ⟨g, k * 2, none⟩ = some (.string o.sv) ∧ ∀ x, W2.frozen? ⟨g, x, none⟩ = false) ∧
    In3 p q r s A ((W2.setCell ⟨g, k * 2 + 1, none⟩ u).setCell ⟨g, k * 2, none⟩ v) (some ⟨g, 0, none⟩) n vc (k + 1) qs := by
  obtain ⟨xs, h1, h2⟩ := h.row
  have hkn : k < n := by have := (List.getElem?_eq_some_iff.1 hk).1; have := hq.len; omega
  have ho := h.each k o (Nat.le_refl _) hk
  obtain ⟨g', e', c0, c1, _⟩ := h.at_ hk hkn
  cases e'
  obtain ⟨cs, hcs⟩ := own_cells h1 g rfl
  have hcs2 := app_keep ho.own hg hcs (by decide)
  have hgl : p ≤ g ∧ g < q := ⟨(h1.lt g rfl).1, hq.rb g rfl⟩
  have hsp2 : Spo p q r s A W2 := by
    rcases hob : (Value.slice o.ea o.eps.length o.ec).ownBlock with _ | kb
    · refine h.sp.below ?_
      rw [hob] at hg
      exact ⟨hg.os, hg.tape, hg.output, Nat.le_trans (by simp) hg.size, fun k hk => (hg.block k (by simp; omega) (fun e => by cases e)).trans (Below.heap_alloc W ob k hk)⟩
    · exact h.sp.but (.inl ⟨(ho.own.lt kb hob).1, hq.ub o (List.mem_of_getElem? hk) kb hob⟩) (But.app (v := Value.slice o.ea o.eps.length o.ec) hg (fun k' hk' => by rw [hob] at hk'; cases hk'; rfl))
  have hb1 : But g W2 ((W2.setCell ⟨g, k * 2 + 1, none⟩ u).setCell ⟨g, k * 2, none⟩ v) := (But.set _ _).trans (But.set _ _)
  have h1' : W2.ownsRow p 47 2 (.slice (some ⟨g, 0, none⟩) n vc) n xs := own_app ho.own hg h1 (by decide)
  refine ⟨⟨?_, ?_, fun x => by simp [World.frozen?, hcs2]⟩, ⟨⟨(xs.set (k * 2 + 1) u).set (k * 2) v, own_putV (own_putV h1' _ _) _ _, fun j x hj hx => ?_⟩, fun j x hj hx => ?_, hsp2.but (.inl hgl) hb1⟩⟩
  · rw [cell_block hcs] at c1; rw [cell_block hcs2]; exact c1
  · rw [cell_block hcs] at c0; rw [cell_block hcs2]; exact c0
  · obtain ⟨e0, e1⟩ := h2 j x (by omega) hx
    rw [List.getElem?_set_ne (by omega), List.getElem?_set_ne (by omega), List.getElem?_set_ne (by omega), List.getElem?_set_ne (by omega)]
    exact ⟨e0, e1⟩
  · have hxo := h.each j x (by omega) hx
    refine ⟨own_blk' hxo.own (fun kk hkk => ?_), hxo.le, hxo.ok, hxo.sz⟩
    have hkk2 := (hxo.own.lt kk hkk).2
    obtain ⟨cx, hcx⟩ := own_cells hxo.own kk hkk
    have hne : kk ≠ g := fun e => by subst e; rw [hcs] at hcx; cases hcx
    have hn2 : (Value.slice o.ea o.eps.length o.ec).ownBlock ≠ some kk := fun e => hq.apt k j o x (by omega) hk hx kk e hkk
    have e1 : W2.heap[kk]? = W.heap[kk]? := (hg.block kk (by simp; omega) (fun e => hn2 e.symm)).trans (Below.heap_alloc W ob kk hkk2)
    rw [hb1.block kk (Nat.lt_of_lt_of_le hkk2 (Nat.le_trans (by simp) hg.size)) hne, e1]
theorem Spo.wide {p q r s : Nat} {A W : World} (h : Spo p q 0 0 A W) : Spo p q r s A W :=
  ⟨h.os, h.tape, h.output, h.size, fun k hk hn => h.old k hk (fun g => hn (by unfold Wri at *; omega))⟩
theorem Spo.grow {p q r s mm : Nat} {A W W2 : World} (h : Spo p q r s A W) {ob : Obj} {v : Value} (hg : ((W.alloc ob).drewN mm).grownBy W2 v.ownBlock) (hv : ∀ k, v.ownBlock = some k → Wri p q r s A k) : Spo p q r s A W2 := by
  rcases hob : v.ownBlock with _ | kb
  · refine h.below ?_
    rw [hob] at hg
    exact ⟨hg.os, hg.tape, hg.output, Nat.le_trans (by simp) hg.size, fun k hk => (hg.block k (by simp; omega) (fun e => by cases e)).trans (Below.heap_alloc W ob k hk)⟩
  · exact h.but (hv kb hob) (But.app hg (fun k' hk' => by rw [hob] at hk'; cases hk'; rfl))
/-- what is not written over stays: a row -/
theorem Spo.row {p q r s : Nat} {A W : World} (h : Spo p q r s A W) {base : Nat} {e : TypeId} {sz : Nat} {v : Value} {n : Nat} {xs : List Value} (ho : A.ownsRow base e sz v n xs) (hn : ∀ k, v.ownBlock = some k → ¬ Wri p q r s A k) : W.ownsRow base e sz v n xs :=
  own_blk' ho (fun k hk => h.old k (ho.lt k hk).2 (hn k hk))
/-- a place of a row of texts, whatever they are -/
theorem own_any1 {w : World} {base : Nat} {e : TypeId} {a : Option Addr} {n c : Nat} {xs : List Value} (h : w.ownsRow base e 1 (.slice a n c) n xs) {k : Nat} (hk : k < n) : ∃ g u, a = some ⟨g, 0, none⟩ ∧ base ≤ g ∧ w.cell? ⟨g, k, none⟩ = some u ∧ ∀ x, w.frozen? ⟨g, x, none⟩ = false := by
  obtain ⟨g, rfl⟩ := own_some h (by omega)
  have hl := h.1
  have hx : xs[k]? = some (xs[k]'(by omega)) := List.getElem?_eq_getElem _
  have c0 := h.cells rfl k _ hx
  rw [Go.WideShapes.add_plain, Nat.zero_add] at c0
  obtain ⟨cs, hcs⟩ := own_cells h g rfl
  exact ⟨g, _, rfl, (h.lt g rfl).1, c0, fun x => by simp [World.frozen?, hcs]⟩
def more2 : List Value := [.string ⟨#[109, 111, 114, 101]⟩, .string ⟨#[109, 111, 114, 101]⟩]
theorem more2_one : ∀ u ∈ more2, u.oneCell' = true := by intro u hu; simp [more2] at hu; subst hu; rfl
def bare2 : List Value := [.string ⟨#[]⟩, .slice none 0 0, .string ⟨#[]⟩, .slice none 0 0]
theorem bare2_one : ∀ u ∈ bare2, u.oneCell' = true := by intro u hu; simp [bare2] at hu; rcases hu with rfl | rfl | rfl | rfl <;> rfl
end Go.Proofs.Ytidpglbokpgpbaa
