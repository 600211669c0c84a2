/-
  The cursor: take, number, text.
-/
import Derived.Test.YteeclghhoioapaaDoorJn
namespace Go.Proofs.YteeclghhoioapaaDoor
open Go.RowKit
set_option linter.unusedVariables false
set_option linter.unusedSimpArgs false
set_option maxRecDepth 100000
/-- But for one block all is as it was. -/
def Bt (w w' : World) (C : Nat) : Prop := Below C w w' ∧ ∀ b, C < b → b < w.heap.size → w'.heap[b]? = w.heap[b]?
theorem Bt.size {w w' : World} {C : Nat} (h : Bt w w' C) : w.heap.size ≤ w'.heap.size := h.1.size
theorem Bt.block {w w' : World} {C : Nat} (h : Bt w w' C) (b : Nat) (hb : b < w.heap.size) (hc : b ≠ C) : w'.heap[b]? = w.heap[b]? := by
  rcases Nat.lt_or_gt_of_ne hc with g | g
  · exact h.1.block b g
  · exact h.2 b g hb
theorem Bt.refl (w : World) (C : Nat) : Bt w w C := ⟨Below.refl _ _, fun _ _ _ => rfl⟩
theorem Bt.trans {w w1 w2 : World} {C : Nat} (h : Bt w w1 C) (g : Bt w1 w2 C) : Bt w w2 C := ⟨h.1.trans g.1, fun b hc hb => (g.2 b hc (Nat.lt_of_lt_of_le hb h.size)).trans (h.2 b hc hb)⟩
theorem Bt.below {w w1 w2 : World} {C : Nat} (h : Bt w w1 C) (g : Below w1.heap.size w1 w2) (hC : C ≤ w1.heap.size) : Bt w w2 C := ⟨h.1.trans (g.mono hC), fun b hc hb => (g.block b (Nat.lt_of_lt_of_le hb h.size)).trans (h.2 b hc hb)⟩
theorem Bt.set (w : World) (C o : Nat) (v : Value) : Bt w (w.setCell ⟨C, o, none⟩ v) C := ⟨(Below.refl C w).setCell (p := ⟨C, o, none⟩) (Nat.le_refl C) v, fun b hc hb => Below.heap_setCell w ⟨C, o, none⟩ v b (by show b ≠ C; omega)⟩
theorem Bt.under {w0 w w' : World} {C B : Nat} (h : Below B w0 w) (g : Bt w w' C) (hB : B ≤ C) : Below B w0 w' := h.trans (g.1.mono hB)
/-- A cursor in memory. -/
def Cu (w : World) (C : Nat) (c : Cur) : Prop := ∃ a n cap, w.heap[C]? = some (.cells #[.slice a n cap, .bool c.short] 102 (0, 0)) ∧ Bs w a n cap c.rest ∧ ∀ x, a = some x → x.spot = none ∧ x.block < C
theorem two_cells {w : World} {C : Nat} {u v : Value} {t : TypeId} (h : w.heap[C]? = some (.cells #[u, v] t (0, 0))) : w.cell? ⟨C, 0, none⟩ = some u ∧ w.cell? ⟨C, 1, none⟩ = some v ∧ w.frozen? ⟨C, 0, none⟩ = false ∧ w.frozen? ⟨C, 1, none⟩ = false :=
  ⟨cell_of_row w C 0 _ t _ h, cell_of_row w C 1 _ t _ h, frozen_of_row w C 0 _ t h, frozen_of_row w C 1 _ t h⟩
set_option maxHeartbeats 2000000 in
theorem take_some (C b off n cap : Nat) (s : Bool) (k : Nat) (w : World) (h0 : w.cell? ⟨C, 0, none⟩ = some (.slice (some ⟨b, off, none⟩) n cap)) (h1 : w.cell? ⟨C, 1, none⟩ = some (.bool s)) (f0 : w.frozen? ⟨C, 0, none⟩ = false) (f1 : w.frozen? ⟨C, 1, none⟩ = false) (hc : n ≤ cap) (hm : cap ≤ maxLen) (hkn : k ≤ n) :
    Calls Tryd.prog 58 #[.pointer (some ⟨C, 0, none⟩), .int .i64 k] w fun e w' => e = .returned (.slice (some ⟨b, off, none⟩) k cap) ∧ ∃ off', w' = w.setCell ⟨C, 0, none⟩ (.slice (some ⟨b, off', none⟩) (n - k) (cap - k)) ∧ (k < n → off' = off + k) := by
  unfold maxLen at hm
  have hcI : (n : Int) ≤ cap := by omega
  have hkI : (k : Int) ≤ n := by omega
  have hkc : (k : Int) ≤ cap := by omega
  have hmI : (cap : Int) ≤ 9223372036854775807 := by omega
  by_cases hf : k = cap
  · obtain rfl : k = n := by omega
    subst hf
    go_enter Tryd.func58, Tryd.ntmps58
    go_wp2
    go_ret
    exact ⟨rfl, off, by rw [Nat.sub_self], fun h => by omega⟩
  · have hfI : (k : Int) < cap := by omega
    go_enter Tryd.func58, Tryd.ntmps58
    go_wp2
    go_ret
    exact ⟨rfl, off + k, rfl, fun _ => rfl⟩
set_option maxHeartbeats 2000000 in
theorem take_none (C : Nat) (s : Bool) (w : World) (h0 : w.cell? ⟨C, 0, none⟩ = some (.slice none 0 0)) (h1 : w.cell? ⟨C, 1, none⟩ = some (.bool s)) (f0 : w.frozen? ⟨C, 0, none⟩ = false) (f1 : w.frozen? ⟨C, 1, none⟩ = false) :
    Calls Tryd.prog 58 #[.pointer (some ⟨C, 0, none⟩), .int .i64 0] w fun e w' => e = .returned (.slice none 0 0) ∧ w' = w.setCell ⟨C, 0, none⟩ (.slice none 0 0) := by
  go_enter Tryd.func58, Tryd.ntmps58
  go_wp2
  go_ret
  exact ⟨rfl, rfl⟩
set_option maxHeartbeats 2000000 in
theorem take_short (C : Nat) (a : Option Addr) (n cap : Nat) (s : Bool) (k : Int) (w : World) (h0 : w.cell? ⟨C, 0, none⟩ = some (.slice a n cap)) (h1 : w.cell? ⟨C, 1, none⟩ = some (.bool s)) (f0 : w.frozen? ⟨C, 0, none⟩ = false) (f1 : w.frozen? ⟨C, 1, none⟩ = false) (hk : k > n) :
    Calls Tryd.prog 58 #[.pointer (some ⟨C, 0, none⟩), .int .i64 k] w fun e w' => e = .returned (.slice none 0 0) ∧ w' = w.setCell ⟨C, 1, none⟩ (.bool true) := by
  go_enter Tryd.func58, Tryd.ntmps58
  go_wp2
  go_ret
  exact ⟨rfl, rfl⟩
theorem Bs.take {w : World} {a : Option Addr} {n cap : Nat} {zs : List Int} (h : Bs w a n cap zs) (k : Nat) (hk : k ≤ n) : Bs w a k cap (zs.take k) := by
  have hl := h.len
  have hf := h.fits
  have hs := h.small
  refine ⟨by simp; omega, ?_, h.oct.take k, h.bare, by omega, h.cap, by omega⟩
  rcases h.has with ⟨rfl, rfl⟩ | ⟨x, rfl, hx⟩
  · exact .inl ⟨rfl, by simp⟩
  · refine .inr ⟨x, rfl, fun j hj => ?_⟩
    simp at hj
    rw [hx j (by omega)]
    have hj1 : j < k := by omega
    simp [List.getD, hj1]
theorem Bs.drop {w : World} {b off n cap : Nat} {zs : List Int} (h : Bs w (some ⟨b, off, none⟩) n cap zs) (k off' : Nat) (hk : k ≤ n) (ho : k < n → off' = off + k) : Bs w (some ⟨b, off', none⟩) (n - k) (cap - k) (zs.drop k) := by
  have hl := h.len
  have hf := h.fits
  have hs := h.small
  have hm := h.cap
  refine ⟨by simp; omega, ?_, h.oct.drop k, (fun h => by cases h), by omega, by omega, by omega⟩
  rcases h.has with ⟨h, _⟩ | ⟨x, hx', hx⟩
  · cases h
  · cases hx'
    refine .inr ⟨_, rfl, fun j hj => ?_⟩
    simp at hj
    rw [ho (by omega)]
    have := hx (k + j) (by omega)
    have e : (⟨b, off, none⟩ : Addr).add (k + j) = (⟨b, off + k, none⟩ : Addr).add j := by
      rw [Go.WideShapes.add_plain, Go.WideShapes.add_plain, Nat.add_assoc]
    rw [← e, this]
    simp [List.getD]
theorem set_two {w : World} {C : Nat} {u v : Value} {t : TypeId} (h : w.heap[C]? = some (.cells #[u, v] t (0, 0))) : (∀ x, x.oneCell' = true → (w.setCell ⟨C, 0, none⟩ x).heap[C]? = some (.cells #[x, v] t (0, 0))) ∧ ∀ x, x.oneCell' = true → (w.setCell ⟨C, 1, none⟩ x).heap[C]? = some (.cells #[u, x] t (0, 0)) :=
  ⟨fun x _ => heap_setCell_same w C 0 _ t x h, fun x _ => heap_setCell_same w C 1 _ t x h⟩
theorem Bs.bt {w w' : World} {C : Nat} {a : Option Addr} {n cap : Nat} {zs : List Int} (h : Bs w a n cap zs) (hb : Bt w w' C) (ha : ∀ x, a = some x → x.block ≠ C) : Bs w' a n cap zs := by
  refine ⟨h.len, ?_, h.oct, h.bare, h.fits, h.cap, h.small⟩
  rcases h.has with ⟨rfl, rfl⟩ | ⟨x, rfl, hx⟩
  · exact .inl ⟨rfl, rfl⟩
  · refine .inr ⟨x, rfl, fun j hj => ?_⟩
    have hj' := hx j hj
    have hlt := World.block_lt_of_cell? w _ hj'
    have e : (x.add j).block = x.block := by unfold Addr.add; split <;> rfl
    rw [e] at hlt
    rw [World.cell?_of_block (w := w) (hb.block (x.add j).block (by rw [e]; exact hlt) (by rw [e]; exact ha x rfl))]
    exact hj'
/-- What take leaves. -/
def TkE (w : World) (C : Nat) (c : Cur) (k : Int) (e : Ending) (w' : World) : Prop := ∃ a cap, e = .returned (.slice a (c.tk k).1.length cap) ∧ Bs w' a (c.tk k).1.length cap (c.tk k).1 ∧ Cu w' C (c.tk k).2 ∧ Bt w w' C
theorem take_any (C : Nat) (c : Cur) (k : Int) (w : World) (h : Cu w C c) (hk : 0 ≤ k) :
    Calls Tryd.prog 58 #[.pointer (some ⟨C, 0, none⟩), .int .i64 k] w fun e w' => TkE w C c k e w' := by
  obtain ⟨a, n, cap, hC, hB, hx⟩ := h
  obtain ⟨h0, h1, f0, f1⟩ := two_cells hC
  have hl := hB.len
  by_cases hlt : k > n
  · refine (take_short C a n cap c.short k w h0 h1 f0 f1 hlt).mono ?_
    rintro e w' ⟨rfl, rfl⟩
    have hb := Bt.set w C 1 (.bool true)
    have e1 : c.tk k = ([], ⟨c.rest, true⟩) := by unfold Cur.tk; rw [if_pos (by rw [hl]; omega)]
    unfold TkE
    rw [e1]
    exact ⟨none, 0, rfl, Bs.nil _, ⟨a, n, cap, (set_two hC).2 _ rfl, hB.bt hb (fun x h => Nat.ne_of_lt (hx x h).2), hx⟩, hb⟩
  · have e1 : c.tk k = (c.rest.take k.toNat, ⟨c.rest.drop k.toNat, c.short⟩) := by unfold Cur.tk; rw [if_neg (by rw [hl]; omega)]
    obtain ⟨q, rfl⟩ : ∃ q : Nat, k = q := ⟨k.toNat, by omega⟩
    have hq : q ≤ n := by omega
    have hlen : (c.rest.take q).length = q := by simp; omega
    unfold TkE
    rw [e1]
    simp only [Int.toNat_natCast]
    rw [hlen]
    rcases a with _ | x
    · have hc0 := hB.bare rfl
      have hf := hB.fits
      obtain rfl : cap = 0 := hc0
      obtain rfl : n = 0 := by omega
      obtain rfl : q = 0 := by omega
      refine (take_none C c.short w h0 h1 f0 f1).mono ?_
      rintro e w' ⟨rfl, rfl⟩
      have hb := Bt.set w C 0 (.slice none 0 0)
      have he : c.rest = [] := List.eq_nil_of_length_eq_zero hl
      rw [he]
      exact ⟨none, 0, rfl, Bs.nil _, ⟨none, 0, 0, (set_two hC).1 _ rfl, Bs.nil _, fun x h => by cases h⟩, hb⟩
    · obtain ⟨b, off, spot⟩ := x
      obtain ⟨rfl, hbC⟩ := hx _ rfl
      refine (take_some C b off n cap c.short q w h0 h1 f0 f1 hB.fits hB.cap hq).mono ?_
      rintro e w' ⟨rfl, off', rfl, ho⟩
      have hb := Bt.set w C 0 (.slice (some ⟨b, off', none⟩) (n - q) (cap - q))
      have hne : b ≠ C := Nat.ne_of_lt hbC
      exact ⟨_, cap, rfl, (hB.bt hb (fun x h => by cases h; exact hne)).take q hq, ⟨some ⟨b, off', none⟩, n - q, cap - q, (set_two hC).1 _ rfl, (hB.bt hb (fun x h => by cases h; exact hne)).drop q off' hq ho, fun x h => by cases h; exact ⟨rfl, hbC⟩⟩, hb⟩
end Go.Proofs.YteeclghhoioapaaDoor
