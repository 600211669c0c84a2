/-
  The power fails: what of a file is kept.
-/
import Derived.Test.YtkmohpdcchpndaaSync
namespace Go.Proofs.Ytkmohpdcchpndaa
open Go.RowKit
set_option linter.unusedVariables false
set_option linter.unusedSimpArgs false
set_option maxRecDepth 100000
/-- what lasts of a file behind it, and how many choices were taken -/
def Lasts (f : Fs) (cs : List Int) (i : Nat) (z : List Int) (i' : Nat) : Prop :=
  ∃ (k i1 : Nat) (y : List Int), (k : Int) = chosen cs i f.ls.length ∧ k ≤ f.ls.length ∧ i1 = nxt cs i ∧ Rp f.last (f.ls.take k) y ∧
    ((∃ x, ∃ m : Nat, f.ls[k]? = some x ∧ x.c.tears = true ∧ (m : Int) = chosen cs i1 x.c.size ∧ m ≤ x.c.size ∧ z = x.c.do y m ∧ i' = nxt cs i1) ∨ ((∀ x, f.ls[k]? = some x → x.c.tears = false) ∧ z = y ∧ i' = i1))
/-- a file and a chooser, apart -/
structure Fc2 (w : World) (base b nb cb : Nat) (f : Fs) (i : Nat) (cs : List Int) (gl : List Nat) : Prop where
  fil : Fil w base b f
  ch : Ch w base nb cb i cs gl
  ap : ∀ k, (k = nb ∨ k = cb ∨ k ∈ gl) → k ∉ f.mut b ∧ k < w.heap.size
  apr : ∀ c ∈ f.ls, nb ∉ c.ro
theorem Fc2.chose {w w1 : World} {base b nb cb : Nat} {f : Fs} {i i' : Nat} {cs : List Int} {gl : List Nat} (h : Fc2 w base b nb cb f i cs gl) (hc : Ch w1 base nb cb i' cs gl) (ht : Turn w w1 [nb]) : Fc2 w1 base b nb cb f i' cs gl :=
  ⟨h.fil.keep (fun k hk => ht.block k (h.fil.lt k hk).2 (by simp; intro e; exact (h.ap nb (.inl rfl)).1 (e ▸ hk))) (fun c hm k hk => ht.block k ((h.fil.chg c hm).lt k hk).2 (by simp; intro e; exact h.apr c hm (e ▸ hk))), hc, fun k hk => ⟨(h.ap k hk).1, Nat.lt_of_lt_of_le (h.ap k hk).2 ht.size⟩, h.apr⟩
theorem Fc2.turned {w w1 : World} {base b nb cb : Nat} {f g : Fs} {i : Nat} {cs : List Int} {gl : List Nat} (h : Fc2 w base b nb cb f i cs gl) (ht : Ft w w1 base b f g) (hl : ∀ c ∈ g.ls, c ∈ f.ls) : Fc2 w1 base b nb cb g i cs gl :=
  ⟨ht.fil, h.ch.keep (fun k hk => ht.turn.block k (h.ap k hk).2 (h.ap k hk).1), fun k hk => ⟨fun hm => (ht.sub k hm).elim (h.ap k hk).1 (fun h' => by have := (h.ap k hk).2; omega), Nat.lt_of_lt_of_le (h.ap k hk).2 ht.turn.size⟩, fun c hc => h.apr c (hl c hc)⟩
/-- where fail stands -/
structure Ov (w w' : World) (base b nb cb : Nat) (f g : Fs) (i' : Nat) (cs : List Int) (gl : List Nat) : Prop where
  st : Fc2 w' base b nb cb g i' cs gl
  turn : Turn w w' (nb :: f.mut b)
  sub : ∀ k ∈ g.mut b, k ∈ f.mut b ∨ w.heap.size ≤ k
theorem Ov.start {w : World} {base b nb cb : Nat} {f : Fs} {i : Nat} {cs : List Int} {gl : List Nat} (h : Fc2 w base b nb cb f i cs gl) : Ov w w base b nb cb f f i cs gl := ⟨h, Turn.refl _ _, fun _ h => .inl h⟩
theorem Ov.chose {w w1 w2 : World} {base b nb cb : Nat} {f g : Fs} {i i' : Nat} {cs : List Int} {gl : List Nat} (h : Ov w w1 base b nb cb f g i cs gl) (hc : Ch w2 base nb cb i' cs gl) (ht : Turn w1 w2 [nb]) : Ov w w2 base b nb cb f g i' cs gl :=
  ⟨h.st.chose hc ht, h.turn.trans ht (fun k hk => .inl (by simp at hk; simp [hk])), h.sub⟩
theorem Ov.turned {w w1 w2 : World} {base b nb cb : Nat} {f g g' : Fs} {i : Nat} {cs : List Int} {gl : List Nat} (h : Ov w w1 base b nb cb f g i cs gl) (ht : Ft w1 w2 base b g g') (hl : ∀ c ∈ g'.ls, c ∈ g.ls) : Ov w w2 base b nb cb f g' i cs gl :=
  ⟨h.st.turned ht hl, h.turn.trans ht.turn (fun k hk => (h.sub k hk).imp (fun h' => by simp [h']) id), fun k hk => (ht.sub k hk).elim (h.sub k) (fun h' => .inr (Nat.le_trans h.turn.size h'))⟩
theorem Ov.below {w w1 w2 : World} {base b nb cb : Nat} {f g : Fs} {i : Nat} {cs : List Int} {gl : List Nat} (h : Ov w w1 base b nb cb f g i cs gl) (hB : Below w1.heap.size w1 w2) : Ov w w2 base b nb cb f g i cs gl :=
  h.turned ⟨h.st.fil.below fun k hk => hB.block k hk, ⟨hB.os, hB.tape, hB.output, hB.size, fun k hk _ => hB.block k hk⟩, fun _ h => .inl h⟩ (fun _ h => h)
theorem setCell_comm {w : World} {b o o' : Nat} {cs : Array Value} {t : TypeId} {fr : Nat × Nat} (h : w.heap[b]? = some (.cells cs t fr)) (hne : o ≠ o') (x y : Value) : (w.setCell ⟨b, o, none⟩ x).setCell ⟨b, o', none⟩ y = (w.setCell ⟨b, o', none⟩ y).setCell ⟨b, o, none⟩ x := by
  have h1 := block_setCell h o x
  have h2 := block_setCell h o' y
  rw [setCell_eq_setRow _ b o' _ t fr y h1, setCell_eq_setRow _ b o _ t fr x h2, setCell_eq_setRow w b o cs t fr x h, setCell_eq_setRow w b o' cs t fr y h, setRow_setRow, setRow_setRow]
  congr 1
  apply Array.ext_getElem?
  intro j
  simp only [Array.getElem?_setIfInBounds]
  by_cases e1 : o = j <;> by_cases e2 : o' = j <;> simp [e1, e2] <;> omega
/-- the end: nothing is loose, and the file is as it lasts -/
theorem Ov.fin {w W w1 : World} {base b nb cb : Nat} {f g : Fs} {i : Nat} {cs : List Int} {gl : List Nat} {v : Value} (h : Ov w W base b nb cb f g i cs gl) (hB : Buf w1 W.heap.size v g.last) (hb : Below W.heap.size W w1) (hbase : base ≤ W.heap.size) :
    w1.heap[b]? = some (.cells #[g.lv, g.lo, g.nv] 75 (0, 0)) ∧ ∃ g', Ov w ((w1.setCell ⟨b, 1, none⟩ (.slice none 0 0)).setCell ⟨b, 2, none⟩ v) base b nb cb f g' i cs gl ∧ g'.last = g.last ∧ g'.now = g.last ∧ g'.ls = [] := by
  have hb1 : w1.heap[b]? = some (.cells #[g.lv, g.lo, g.nv] 75 (0, 0)) := (hb.block b (lt_of_block h.st.fil.blk)).trans h.st.fil.blk
  have f1 := now_turn h.st.fil (hB.base hbase) (⟨hb.os, hb.tape, hb.output, hb.size, fun k hk _ => hb.block k hk⟩ : W.grownBy w1 g.nv.ownBlock) (.inr fun k hk => (hB.low hk).1)
  have f2 := loose_none f1.fil
  refine ⟨hb1, { g with nv := v, now := g.last, lo := .slice none 0 0, ls := [] }, ?_, rfl, rfl, rfl⟩
  rw [setCell_comm hb1 (by decide)]
  exact (h.turned f1 (fun _ h => h)).turned f2 (fun c hc => by cases hc)
/-- behind keep -/
structure Kept (w w2 : World) (base b nb cb : Nat) (f : Fs) (i : Nat) (cs : List Int) (gl : List Nat) (k i1 : Nat) (g : Fs) : Prop where
  ov : Ov w w2 base b nb cb f g i1 cs gl
  ls : g.ls = f.ls
  lo : g.lo = f.lo
  ck : (k : Int) = chosen cs i f.ls.length
  le : k ≤ f.ls.length
  i1 : i1 = nxt cs i
  rp : Rp f.last (f.ls.take k) g.last
theorem keep_calls (w : World) (base b nb cb : Nat) (f : Fs) (i : Nat) (cs : List Int) (gl : List Nat) (h : Fc2 w base b nb cb f i cs gl) (hr : Rp f.last f.ls f.now) (hls : f.ls.length ≤ 1000000000) (hi : i ≤ 17592186044000) (hbase : base ≤ w.heap.size) :
    Calls Try.prog 62 #[.int .i64 (f.ls.length : Nat), .pointer (some ⟨nb, 0, none⟩), .pointer (some ⟨cb, 0, none⟩)] w fun e w1 => ∃ k : Nat, e = .returned (.int .i64 k) ∧ k ≤ f.ls.length ∧ Calls Try.prog 64 #[.pointer (some ⟨b, 0, none⟩), .int .i64 k] w1 fun e w2 => e = .returned (.tuple #[]) ∧ ∃ i1 g, Kept w w2 base b nb cb f i cs gl k i1 g := by
  refine (choose_any w base nb cb i cs gl f.ls.length h.ch (by omega) (by omega)).mono ?_
  rintro e w1 ⟨rfl, ⟨i1, hi1, hi2, hc⟩, ht⟩
  have hrg := chosen_range cs i f.ls.length
  obtain ⟨k, hk⟩ : ∃ k : Nat, (k : Int) = chosen cs i f.ls.length := ⟨(chosen cs i f.ls.length).toNat, by omega⟩
  obtain ⟨y, hy, _⟩ := hr.at k (by omega)
  have o1 := (Ov.start h).chose hc ht
  refine ⟨k, by rw [hk], by omega, (keep_any w1 base b f k y o1.st.fil (by omega) hy hls (Nat.le_trans hbase ht.size)).mono ?_⟩
  rintro e w2 ⟨rfl, g, hK, hz⟩
  refine ⟨rfl, i1, g, o1.turned hK.ft (fun c hc => by rw [hK.ls] at hc; exact hc), hK.ls, hK.lo, hk, by omega, ?_, by rw [hz]; exact hy⟩
  omega
/-- nothing is torn -/
theorem Kept.whole {w w2 : World} {base b nb cb : Nat} {f g : Fs} {i k i1 : Nat} {cs : List Int} {gl : List Nat} (h : Kept w w2 base b nb cb f i cs gl k i1 g) (hn : ∀ x, f.ls[k]? = some x → x.c.tears = false) : Lasts f cs i g.last i1 := ⟨k, i1, g.last, h.ck, h.le, h.i1, h.rp, .inr ⟨hn, rfl, rfl⟩⟩
theorem Kept.cells {w w2 : World} {base b nb cb : Nat} {f g : Fs} {i k i1 : Nat} {cs : List Int} {gl : List Nat} (h : Kept w w2 base b nb cb f i cs gl k i1 g) {x : Lc} (hx : f.ls[k]? = some x) : ∃ r c, f.lo = .slice (some ⟨r, 0, none⟩) f.ls.length c ∧ w2.cell? ⟨r, k * 3, none⟩ = some x.d ∧ w2.cell? ⟨r, k * 3 + 1, none⟩ = some (.int .i64 x.c.size) ∧ w2.cell? ⟨r, k * 3 + 2, none⟩ = some (.bool x.c.tears) := by
  have hr := h.ov.st.fil.row
  rw [h.ls, h.lo] at hr
  have hj := (List.getElem?_eq_some_iff.1 hx).1
  rcases hr.2 with ⟨_, h0⟩ | ⟨r, c, cur, e, _⟩
  · omega
  · rw [e] at hr
    obtain ⟨e1, e2, e3⟩ := rowOf_get f.ls k x hx
    exact ⟨r, c, e, (hr.cellAt _ (by omega)).trans e1, (hr.cellAt _ (by omega)).trans e2, (hr.cellAt _ (by omega)).trans e3⟩
end Go.Proofs.Ytkmohpdcchpndaa
