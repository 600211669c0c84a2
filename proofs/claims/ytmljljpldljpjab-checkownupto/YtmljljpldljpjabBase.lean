/-
  What the walks share: bytes behind a slice, rows of the call's own, the helper lent.
-/
import Derived.Test.YtmljljpldljpjabRows
import Derived.WalkKit
import Derived.WalkSpells
import Derived.WalkLawsBesides
import Derived.Below
import Derived.Outline
import Derived.Laws.BitsAllLaws
import Derived.Deep.AppendLies
import Derived.Laws.AppendOwnNone
import Derived.OpenShut
import Derived.Deep.DrawnRows
import Derived.Deep.RegionWith
namespace Go.Proofs.Ytmljljpldljpjab
open Go.RowKit
set_option linter.unusedVariables false

def Octets (zs : List Int) : Prop := ∀ i : Nat, 0 ≤ zs.getD i 0 ∧ zs.getD i 0 ≤ 255
/-- What is read behind a slice's address: nothing, or these bytes. -/
def Has (w : World) (a : Option Addr) (zs : List Int) : Prop := (a = none ∧ zs = []) ∨ ∃ x, a = some x ∧ ∀ j, j < zs.length → w.cell? (x.add j) = some (.int .u8 (zs.getD j 0))
def vals (zs : List Int) : List Value := zs.map (Value.int .u8)
theorem vals_length (zs : List Int) : (vals zs).length = zs.length := by simp [vals]
theorem vals_at (zs : List Int) (j : Nat) (u : Value) (h : (vals zs)[j]? = some u) : j < zs.length ∧ u = .int .u8 (zs.getD j 0) := by
  simp only [vals, List.getElem?_map, Option.map_eq_some_iff] at h
  obtain ⟨z, hz, rfl⟩ := h
  have hj := (List.getElem?_eq_some_iff.1 hz).1
  exact ⟨hj, by simp [List.getD, hz]⟩
theorem vals_get (zs : List Int) (j : Nat) (h : j < zs.length) : (vals zs)[j]? = some (.int .u8 (zs.getD j 0)) := by
  simp [vals, h]
theorem vals_one (zs : List Int) : ∀ u ∈ vals zs, u.oneCell' = true := by
  intro u hu
  obtain ⟨z, _, rfl⟩ := List.mem_map.1 hu
  rfl
theorem vals_append (a b : List Int) : vals (a ++ b) = vals a ++ vals b := by simp [vals]
theorem own_cap {w : World} {base : Nat} {e : TypeId} {size g n cap : Nat} {xs : List Value} (h : w.ownsRow base e size (.slice (some ⟨g, 0, none⟩) n cap) n xs) : n ≤ cap ∧ cap ≤ maxLen := by
  rcases h.2 with ⟨h, _⟩ | ⟨g', cap', cur, hv, _, _, h1, h2, _⟩
  · cases h
  · cases hv; exact ⟨h1, h2⟩
/-- What lent leaves. -/
def Lent (w : World) (zs : List Int) (v : Value) (w' : World) : Prop :=
  ∃ g cap, v = .slice (some ⟨g, 0, none⟩) zs.length cap ∧ w'.ownsRow w.heap.size 5 1 (.slice (some ⟨g, 0, none⟩) (zs.length + 2) cap) (zs.length + 2) (vals (zs ++ [201, 202])) ∧ Below w.heap.size w w'
theorem bcell {W w1 : World} (hb : Below W.heap.size W w1) : (∀ b o, b < W.heap.size → w1.cell? ⟨b, o, none⟩ = W.cell? ⟨b, o, none⟩) ∧ (∀ b o, b < W.heap.size → w1.frozen? ⟨b, o, none⟩ = W.frozen? ⟨b, o, none⟩) :=
  ⟨fun b o h => hb.cell (p := ⟨b, o, none⟩) h, fun b o h => hb.frozen (p := ⟨b, o, none⟩) h⟩
theorem Has.of_block {w : World} {B : Nat} {zs : List Int} {t : TypeId} {fr : Nat × Nat} (hb : w.heap[B]? = some (.cells (vals zs).toArray t fr)) : Has w (some ⟨B, 0, none⟩) zs :=
  .inr ⟨_, rfl, fun j hj => World.news_of_block hb j _ (by simpa using vals_get zs j hj)⟩
theorem Has.below {B : Nat} {w w' : World} {a : Option Addr} {zs : List Int} (h : Has w a zs) (hb : Below B w w') (hB : ∀ x, a = some x → 0 < zs.length → x.block < B) : Has w' a zs := by
  rcases h with h | ⟨x, rfl, hx⟩
  · exact .inl h
  · refine .inr ⟨x, rfl, fun j hj => ?_⟩
    have hxb : (x.add j).block < B := by
      have := hB x rfl (by omega)
      unfold Addr.add; split <;> simpa using this
    exact (hb.cell hxb).trans (hx j hj)
theorem Has.lt {w : World} {a : Option Addr} {zs : List Int} (h : Has w a zs) : ∀ x, a = some x → 0 < zs.length → x.block < w.heap.size := by
  intro x hx h0
  rcases h with ⟨rfl, _⟩ | ⟨y, rfl, hy⟩
  · cases hx
  · cases hx
    have := World.block_lt_of_cell? w _ (hy 0 h0)
    simpa [Addr.add] using this
theorem Has.of_below {w w' : World} {a : Option Addr} {zs : List Int} (h : Has w a zs) (hb : Below w.heap.size w w') : Has w' a zs := h.below hb h.lt
theorem has_news {w w' : World} {x : Addr} {zs : List Int} (HB : Hid (Has w (some x) zs)) (hb : Below w.heap.size w w') : ∀ j u, (vals zs)[j]? = some u → w'.cell? (x.add j) = some u := fun j u h => by
  obtain ⟨hj, rfl⟩ := vals_at zs j u h
  rcases HB.out.of_below hb with ⟨h, _⟩ | ⟨x', hx, hB⟩
  · cases h
  · cases hx; exact hB j hj
theorem Octets.nil : Octets [] := fun i => by simp
theorem lent_made {w w1 : World} {n : Nat} (hown : w1.ownsRow w.heap.size 5 1 (.slice (some ⟨w.heap.size, 0, none⟩) 0 (n + 2)) 0 []) (hg : w.grownBy w1 none) : Hid (w1.ownsRow w.heap.size 5 1 (.slice (some ⟨w.heap.size, 0, none⟩) 0 (n + 2)) 0 []) ∧ Hid (Below w.heap.size w w1) :=
  ⟨hown, (Below.refl _ w).grown hg (Nat.le_refl _) (fun k h => by cases h)⟩
theorem lent_two {w w1 w2 : World} {n : Nat} {zs : List Int} (B1 : Hid (Below w.heap.size w w1)) (hown : w2.ownsRow w.heap.size 5 1 (.slice (some ⟨w.heap.size, 0, none⟩) (0 + n) (n + 2)) (0 + n) ([] ++ vals zs)) (hg : w1.grownBy w2 (some w.heap.size)) : Hid (w2.ownsRow w.heap.size 5 1 (.slice (some ⟨w.heap.size, 0, none⟩) n (n + 2)) n (vals zs)) ∧ Hid (Below w.heap.size w w2) := by
  rw [Nat.zero_add, List.nil_append] at hown
  exact ⟨hown, B1.out.grown hg B1.out.size (fun k h => by cases h; omega)⟩
theorem lent_three {w w2 w3 : World} {n : Nat} {zs : List Int} {o : Obj} (hn : zs.length = n) (B2 : Hid (Below w.heap.size w w2)) (hown : w3.ownsRow w.heap.size 5 1 (.slice (some ⟨w.heap.size, 0, none⟩) (n + 2) (n + 2)) (n + 2) (vals zs ++ vals [201, 202])) (hg : (w2.alloc o).grownBy w3 (some w.heap.size)) : Hid (Lent w zs (.slice (some ⟨w.heap.size, 0, none⟩) n (n + 2)) w3) := by
  subst hn
  refine ⟨_, _, rfl, by rw [vals_append]; exact hown, ?_⟩
  exact (B2.out.alloc B2.out.size _).grown hg (by have := B2.out.size; simp; omega) (fun k h => by cases h; omega)
theorem Octets.append {a b : List Int} (ha : Octets a) (hb : Octets b) : Octets (a ++ b) := fun i => by
  by_cases h : i < a.length
  · have := ha i; simpa [List.getD, List.getElem?_append_left h] using this
  · have := hb (i - a.length); simpa [List.getD, List.getElem?_append_right (Nat.le_of_not_lt h)] using this
theorem Octets.take {a : List Int} (ha : Octets a) (k : Nat) : Octets (a.take k) := fun i => by
  by_cases hi : i < k
  · have := ha i
    rwa [show (a.take k).getD i 0 = a.getD i 0 by simp [List.getD, hi]]
  · rw [show (a.take k).getD i 0 = 0 by simp [List.getD, List.getElem?_take, hi]]; omega
theorem Octets.drop {a : List Int} (ha : Octets a) (k : Nat) : Octets (a.drop k) := fun i => by
  have := ha (k + i); simpa [List.getD] using this
theorem own_has {w : World} {base g n cap : Nat} {zs : List Int} (h : w.ownsRow base 5 1 (.slice (some ⟨g, 0, none⟩) n cap) n (vals zs)) : Has w (some ⟨g, 0, none⟩) zs :=
  .inr ⟨_, rfl, fun j hj => h.cells rfl j _ (vals_get zs j hj)⟩
/-- A slice of bytes that is there. -/
structure Bs (W : World) (a : Option Addr) (n cap : Nat) (zs : List Int) : Prop where
  len : zs.length = n
  has : Has W a zs
  oct : Octets zs
  bare : a = none → cap = 0
  fits : n ≤ cap
  cap : cap ≤ maxLen
  small : n ≤ 140737488355328
theorem Bs.below {w W : World} {a : Option Addr} {n cap : Nat} {zs : List Int} (h : Bs w a n cap zs) (hb : Below w.heap.size w W) : Bs W a n cap zs := ⟨h.len, h.has.of_below hb, h.oct, h.bare, h.fits, h.cap, h.small⟩
theorem Bs.nil (w : World) : Bs w none 0 0 [] := ⟨rfl, .inl ⟨rfl, rfl⟩, Octets.nil, fun _ => rfl, Nat.le_refl _, by decide, by decide⟩
theorem add_add (x : Addr) (k j : Nat) : (x.add k).add j = x.add (k + j) := by
  unfold Addr.add
  by_cases hk : k = 0 <;> by_cases hj : j = 0 <;> simp [hk, hj, Nat.add_assoc]
theorem Bs.front {w : World} {x : Addr} {n cap : Nat} {zs : List Int} (h : Bs w (some x) n cap zs) (k : Nat) (hk : k ≤ n) : Bs w (some x) k cap (zs.take k) := by
  have := h.len; have := h.fits; have := h.small
  refine ⟨by simp; omega, ?_, h.oct.take k, (fun h => by cases h), by omega, h.cap, by omega⟩
  rcases h.has with ⟨h, _⟩ | ⟨y, hy, hB⟩
  · cases h
  · refine .inr ⟨y, hy, fun j hj => ?_⟩
    have hj' : j < k := by simp at hj; omega
    rw [hB j (by omega)]; simp [List.getD, hj']
theorem Bs.back {w : World} {x : Addr} {n cap : Nat} {zs : List Int} (h : Bs w (some x) n cap zs) (k : Nat) (hk : k ≤ n) : Bs w (some (x.add k)) (n - k) (cap - k) (zs.drop k) := by
  have := h.len; have := h.fits; have := h.small; have := h.cap
  refine ⟨by simp; omega, ?_, h.oct.drop k, (fun h => by cases h), by omega, by omega, by omega⟩
  rcases h.has with ⟨h, _⟩ | ⟨y, hy, hB⟩
  · cases h
  · cases hy
    refine .inr ⟨_, rfl, fun j hj => ?_⟩
    rw [add_add, hB (k + j) (by simp at hj; omega)]; simp [List.getD]
/-- Bytes in memory of their own, the two marks behind them. -/
structure Row (w : World) (base g n cap : Nat) (zs : List Int) : Prop where
  len : zs.length = n
  oct : Octets zs
  small : n ≤ 140737488351232
  owns : w.ownsRow base 5 1 (.slice (some ⟨g, 0, none⟩) (n + 2) cap) (n + 2) (vals (zs ++ [201, 202]))
theorem Row.cap {w : World} {base g n cap : Nat} {zs : List Int} (h : Row w base g n cap zs) : n + 2 ≤ cap ∧ cap ≤ maxLen := own_cap h.owns
theorem Row.lt {w : World} {base g n cap : Nat} {zs : List Int} (h : Row w base g n cap zs) : base ≤ g ∧ g < w.heap.size := h.owns.lt g rfl
theorem Row.has {w : World} {base g n cap : Nat} {zs : List Int} (h : Row w base g n cap zs) : Has w (some ⟨g, 0, none⟩) zs := by
  rcases own_has h.owns with ⟨h, _⟩ | ⟨x, hx, hB⟩
  · cases h
  · refine .inr ⟨x, hx, fun j hj => ?_⟩
    rw [hB j (by simp; omega)]
    simp [List.getD, List.getElem?_append_left hj]
theorem Row.bs {w : World} {base g n cap : Nat} {zs : List Int} (h : Row w base g n cap zs) : Bs w (some ⟨g, 0, none⟩) n cap zs := by
  have hc := h.cap; have := h.small
  exact ⟨h.len, h.has, h.oct, (fun h => by cases h), by omega, hc.2, by omega⟩
theorem Row.cellAt {w : World} {base g n cap : Nat} {zs : List Int} (h : Row w base g n cap zs) (j : Nat) (hj : j < n + 2) : w.cell? ⟨g, j, none⟩ = some (.int .u8 ((zs ++ [201, 202]).getD j 0)) := by
  rw [h.owns.cellAt j (by omega), vals_get _ j (by simp; have := h.len; omega)]
theorem Row.marks {w : World} {base g n cap : Nat} {zs : List Int} (h : Row w base g n cap zs) : w.cell? ⟨g, n, none⟩ = some (.int .u8 201) ∧ w.cell? ⟨g, n + 1, none⟩ = some (.int .u8 202) := by
  have hn := h.len
  refine ⟨?_, ?_⟩
  · rw [h.cellAt n (by omega)]; simp [List.getD, ← hn]
  · rw [h.cellAt (n + 1) (by omega)]; simp [List.getD, ← hn]
theorem Row.below {w w' : World} {B base g n cap : Nat} {zs : List Int} (h : Row w base g n cap zs) (hb : Below B w w') (hg : g < B) : Row w' base g n cap zs :=
  ⟨h.len, h.oct, h.small, by
    refine ⟨h.owns.1, ?_⟩
    rcases h.owns.2 with ⟨h, _⟩ | ⟨g', cap', cur, hv, hbg, hgg, rest⟩
    · cases h
    · cases hv
      exact .inr ⟨g, cap, cur, rfl, hbg, (hb.block g hg).trans hgg, rest⟩⟩
theorem wpList_append_form {P : Program} (w : World) {ops : Array Oper} {rest : List Oper} {o : Oper} {a : Act} {Q : Exit → Act → World → Prop} (hgd : o.guard = none) (s x : Operand) (t : TypeId)
    (ho : o.op = .call { callee := .builtin .append, args := #[s, x], argTypes := #[t, t] })
    (base : Nat) (e : TypeId) (i : TypeInfo) (z : Value) (size bytes : Nat) (ht : P.underlying t = some (.slice e)) (hi : P.info? e = some i) (hz : i.zero = some z)
    (hsize : i.size = size) (hby : i.bytes = bytes) (hzs : z.cells.size = size) (hsz : 0 < size)
    (v : Value) (n : Nat) (xs : List Value) (hs : a.eval s = v) (hown : w.ownsRow base e size v n xs)
    (ad : Addr) (m c : Nat) (news : List Value) (hx : a.eval x = .slice (some ad) m c) (hl : news.length = m * size) (hnews : ∀ j u, news[j]? = some u → w.cell? (ad.add j) = some u) (h1 : ∀ u ∈ news, u.oneCell' = true)
    (hnm : 0 < n + m) (h63 : n + m ≤ maxLen) (hbytes : (n + m) * bytes ≤ 140737488355328) (hbase : base ≤ w.heap.size)
    (h : ∀ g cap w', w'.ownsRow base e size (.slice (some ⟨g, 0, none⟩) (n + m) cap) (n + m) (xs ++ news) → w.grownBy w' v.ownBlock → wpList P ops Q rest (a.put o.dst (.slice (some ⟨g, 0, none⟩) (n + m) cap)) w') : wpList P ops Q (o :: rest) a w :=
  wpList_append_own w hgd s x t ho base e i z size bytes ht hi hz hsize hby hzs hsz v n xs hs hown ad m c news hx hl hnews h1 h63 hbytes hbase (fun v' w' ho' hg _ => by
    obtain ⟨g, cap, rfl, _⟩ := ho'.form hnm
    exact h g cap w' ho' hg)
theorem own_below {w w' : World} {B base g n cap : Nat} {xs : List Value} (h : w.ownsRow base 5 1 (.slice (some ⟨g, 0, none⟩) n cap) n xs) (hb : Below B w w') (hg : g < B) : w'.ownsRow base 5 1 (.slice (some ⟨g, 0, none⟩) n cap) n xs := by
  refine ⟨h.1, ?_⟩
  rcases h.2 with ⟨h, _⟩ | ⟨g', cap', cur, hv, hbg, hgg, rest⟩
  · cases h
  · cases hv
    exact .inr ⟨g, cap, cur, rfl, hbg, (hb.block g hg).trans hgg, rest⟩
theorem has_front {w : World} {a : Option Addr} {zs : List Int} (h : Has w a zs) (k : Nat) (hk : k ≤ zs.length) : Has w a (zs.take k) := by
  rcases h with ⟨rfl, rfl⟩ | ⟨x, rfl, hB⟩
  · exact .inl ⟨rfl, by simp⟩
  · refine .inr ⟨x, rfl, fun j hj => ?_⟩
    have hj' : j < k := by simp at hj; omega
    rw [hB j (by omega)]; simp [List.getD, hj']
/-- A slice of bytes, with what it holds. -/
structure Sl where
  a : Option Addr
  n : Nat
  cap : Nat
  zs : List Int
abbrev Sl.val (s : Sl) : Value := .slice s.a s.n s.cap
theorem own_block {w w' : World} {base : Nat} {e : TypeId} {v : Value} {n : Nat} {xs : List Value} (h : w.ownsRow base e 1 v n xs) (hb : ∀ k, v.ownBlock = some k → w'.heap[k]? = w.heap[k]?) : w'.ownsRow base e 1 v n xs := by
  refine ⟨h.1, ?_⟩
  rcases h.2 with h0 | ⟨g, cap, cur, rfl, hbg, hgg, rest⟩
  · exact .inl h0
  · exact .inr ⟨g, cap, cur, rfl, hbg, (hb g rfl).trans hgg, rest⟩
theorem own_base {w : World} {base base' : Nat} {e : TypeId} {v : Value} {n : Nat} {xs : List Value} (h : w.ownsRow base e 1 v n xs) (hb : base' ≤ base) : w.ownsRow base' e 1 v n xs := by
  refine ⟨h.1, ?_⟩
  rcases h.2 with h0 | ⟨g, cap, cur, rfl, hbg, rest⟩
  · exact .inl h0
  · exact .inr ⟨g, cap, cur, rfl, Nat.le_trans hb hbg, rest⟩
theorem row_type {w : World} {base : Nat} {e : TypeId} {v : Value} {n : Nat} {xs : List Value} {g : Nat} {cs : Array Value} {t : TypeId} {fr : Nat × Nat} (h : w.ownsRow base e 1 v n xs) (hg : w.heap[g]? = some (.cells cs t fr)) (hne : t ≠ e) : some g ≠ v.ownBlock := by
  rcases h.2 with ⟨rfl, _⟩ | ⟨g', cap, cur, rfl, _, hgg, _⟩
  · simp [Value.ownBlock]
  · simp only [Value.ownBlock]
    intro e'
    cases e'
    rw [hgg] at hg
    cases hg
    exact hne rfl
theorem rows_ne {w : World} {b1 b2 : Nat} {e1 e2 : TypeId} {v1 v2 : Value} {n1 n2 : Nat} {x1 x2 : List Value} (h1 : w.ownsRow b1 e1 1 v1 n1 x1) (h2 : w.ownsRow b2 e2 1 v2 n2 x2) (hne : e1 ≠ e2) : v1.ownBlock = none ∨ v1.ownBlock ≠ v2.ownBlock := by
  rcases h1.2 with ⟨rfl, _⟩ | ⟨g, cp, cur, rfl, _, hgg, _⟩
  · exact .inl rfl
  · exact .inr (row_type h2 hgg hne)
theorem own_belowV {w w' : World} {B base : Nat} {e : TypeId} {v : Value} {n : Nat} {xs : List Value} (h : w.ownsRow base e 1 v n xs) (hb : Below B w w') (hB : w.heap.size ≤ B) : w'.ownsRow base e 1 v n xs :=
  own_block h (fun k hk => hb.block k (Nat.lt_of_lt_of_le (h.lt k hk).2 hB))
theorem own_bs {w : World} {base : Nat} {v : Value} {n : Nat} {zs : List Int} (h : w.ownsRow base 5 1 v n (vals zs)) (hz : Octets zs) (hl : n ≤ 140737488351232) : ∃ a cp, v = .slice a n cp ∧ Bs w a n cp zs := by
  have hn : zs.length = n := by have := h.1; simp [vals_length] at this; exact this
  rcases h.2 with ⟨rfl, h0⟩ | ⟨g, cp, cur, rfl, _, _, hc, hm, _⟩
  · subst h0
    obtain rfl : zs = [] := List.length_eq_zero_iff.1 hn
    exact ⟨none, 0, rfl, Bs.nil w⟩
  · exact ⟨_, cp, rfl, hn, own_has h, hz, (fun h => by cases h), hc, hm, by omega⟩
theorem Row.front {w : World} {base g n cap : Nat} {zs : List Int} (h : Row w base g n cap zs) : w.ownsRow base 5 1 (.slice (some ⟨g, 0, none⟩) n cap) n (vals zs) := by
  refine ⟨by rw [vals_length, h.len]; omega, ?_⟩
  rcases h.owns.2 with ⟨h, _⟩ | ⟨g', cap', cur, hv, hb, hg, hc, hm, hs, ht⟩
  · cases h
  · cases hv
    refine .inr ⟨g, cap, cur, rfl, hb, hg, by omega, hm, hs, ?_⟩
    have := congrArg (List.take n) ht
    rw [List.take_take, vals_append, List.take_left' (by rw [vals_length, h.len])] at this
    rw [← this]; congr 1; omega
theorem Bs.frontAny {w : World} {a : Option Addr} {n cap : Nat} {zs : List Int} (h : Bs w a n cap zs) (k : Nat) (hk : k ≤ n) : Bs w a k cap (zs.take k) := by
  have := h.len; have := h.fits; have := h.small
  exact ⟨by simp; omega, has_front h.has k (by omega), h.oct.take k, h.bare, by omega, h.cap, by omega⟩

theorem own_blk' {w w' : World} {base : Nat} {e : TypeId} {size : Nat} {v : Value} {n : Nat} {xs : List Value} (h : w.ownsRow base e size v n xs) (hb : ∀ k, v.ownBlock = some k → w'.heap[k]? = w.heap[k]?) : w'.ownsRow base e size v n xs := by
  refine ⟨h.1, ?_⟩
  rcases h.2 with h0 | ⟨g, cap, cur, rfl, hbg, hgg, rest⟩
  · exact .inl h0
  · exact .inr ⟨g, cap, cur, rfl, hbg, (hb g rfl).trans hgg, rest⟩
theorem own_low' {w : World} {base base' : Nat} {e : TypeId} {size : Nat} {v : Value} {n : Nat} {xs : List Value} (h : w.ownsRow base e size v n xs) (hb : base' ≤ base) : w.ownsRow base' e size v n xs := by
  refine ⟨h.1, ?_⟩
  rcases h.2 with h0 | ⟨g, cap, cur, rfl, hbg, rest⟩
  · exact .inl h0
  · exact .inr ⟨g, cap, cur, rfl, Nat.le_trans hb hbg, rest⟩
theorem own_apart' {w : World} {b1 b2 : Nat} {e1 e2 : TypeId} {s1 s2 : Nat} {v1 v2 : Value} {n1 n2 : Nat} {x1 x2 : List Value} (h1 : w.ownsRow b1 e1 s1 v1 n1 x1) (h2 : w.ownsRow b2 e2 s2 v2 n2 x2) (hne : e1 ≠ e2) (k : Nat) (hk : v1.ownBlock = some k) : some k ≠ v2.ownBlock := by
  rcases h1.2 with ⟨rfl, _⟩ | ⟨g, cp, cur, rfl, _, hgg, _⟩
  · simp [Value.ownBlock] at hk
  · simp only [Value.ownBlock, Option.some.injEq] at hk
    subst hk
    rcases h2.2 with ⟨rfl, _⟩ | ⟨g', cap, cur', rfl, _, hgg', _⟩
    · simp [Value.ownBlock]
    · simp only [Value.ownBlock]
      intro e'
      cases e'
      rw [hgg] at hgg'
      cases hgg'
      exact hne rfl
theorem own_cells {w : World} {base : Nat} {e : TypeId} {size : Nat} {v : Value} {n : Nat} {xs : List Value} (h : w.ownsRow base e size v n xs) (k : Nat) (hk : v.ownBlock = some k) : ∃ cur, w.heap[k]? = some (.cells cur e (0, 0)) := by
  rcases h.2 with ⟨rfl, _⟩ | ⟨g, cp, cur, rfl, _, hgg, _⟩
  · simp [Value.ownBlock] at hk
  · simp only [Value.ownBlock, Option.some.injEq] at hk
    subst hk
    exact ⟨cur, hgg⟩

/-- But for one block all is as it was. -/
structure But (b : Nat) (A B : World) : Prop where
  os : B.os = A.os
  tape : B.tape = A.tape
  output : B.output = A.output
  size : A.heap.size ≤ B.heap.size
  block : ∀ j, j < A.heap.size → j ≠ b → B.heap[j]? = A.heap[j]?
theorem But.refl (b : Nat) (A : World) : But b A A := ⟨rfl, rfl, rfl, Nat.le_refl _, fun _ _ _ => rfl⟩
theorem But.trans {b : Nat} {A B C : World} (h : But b A B) (k : But b B C) : But b A C :=
  ⟨k.os.trans h.os, k.tape.trans h.tape, k.output.trans h.output, Nat.le_trans h.size k.size, fun j hj hne => (k.block j (Nat.lt_of_lt_of_le hj h.size) hne).trans (h.block j hj hne)⟩
theorem But.of_below {b : Nat} {A B : World} (h : Below A.heap.size A B) : But b A B := ⟨h.os, h.tape, h.output, h.size, fun j hj _ => h.block j hj⟩
theorem But.of_set {b : Nat} {A B : World} (h : Below A.heap.size A B) (v : Value) : But b A (B.setCell ⟨b, 0, none⟩ v) :=
  (But.of_below h).trans ⟨rfl, rfl, rfl, by simp [World.setCell], fun j _ hne => Below.heap_setCell _ _ _ _ hne⟩
theorem But.below {b n : Nat} {A B : World} (h : But b A B) (h1 : n ≤ A.heap.size) (h2 : n ≤ b) : Below n A B := ⟨h.os, h.tape, h.output, h.size, fun k hk => h.block k (by omega) (by omega)⟩
theorem But.own {b : Nat} {A B : World} (h : But b A B) {base : Nat} {e : TypeId} {size : Nat} {v : Value} {n : Nat} {xs : List Value} (ho : A.ownsRow base e size v n xs) {c : Array Value} {t : TypeId} {fr : Nat × Nat} (hb : A.heap[b]? = some (.cells c t fr)) (hne : e ≠ t) : B.ownsRow base e size v n xs := by
  refine own_blk' ho (fun k hk => h.block k (ho.lt k hk).2 ?_)
  rintro rfl
  obtain ⟨cur, hc⟩ := own_cells ho k hk
  rw [hc] at hb
  cases hb
  exact hne rfl

theorem setCell_same {w : World} {b : Nat} {v : Value} {t : TypeId} (h : w.heap[b]? = some (.cells #[v] t (0, 0))) : w.setCell ⟨b, 0, none⟩ v = w := by
  have e : (w.setCell ⟨b, 0, none⟩ v).heap = w.heap := by
    apply Array.ext_getElem?
    intro j
    by_cases hj : j = b
    · subst hj; rw [one_setCell h, h]
    · exact Below.heap_setCell _ _ _ _ hj
  have e2 : w.setCell ⟨b, 0, none⟩ v = { w with heap := (w.setCell ⟨b, 0, none⟩ v).heap } := rfl
  rw [e2, e]

theorem But.cells {b : Nat} {A B : World} (hb : But b A B) {j : Nat} {o : Obj} (h : A.heap[j]? = some o) (hne : j ≠ b) : B.heap[j]? = some o := (hb.block j (Array.getElem?_eq_some_iff.1 h).1 hne).trans h
theorem cells_ne {A : World} {j b : Nat} {c1 c2 : Array Value} {t1 t2 : TypeId} {f1 f2 : Nat × Nat} (h1 : A.heap[j]? = some (.cells c1 t1 f1)) (h2 : A.heap[b]? = some (.cells c2 t2 f2)) (hne : t1 ≠ t2) : j ≠ b := by
  rintro rfl
  rw [h1] at h2
  cases h2
  exact hne rfl

theorem cell_of_below {A B : World} (hb : Below A.heap.size A B) {p : Addr} {u : Value} (h : A.cell? p = some u) : B.cell? p = some u := (hb.cell (p := p) (World.block_lt_of_cell? A _ h)).trans h
theorem But.set {b : Nat} {A : World} (o : Nat) (v : Value) : But b A (A.setCell ⟨b, o, none⟩ v) :=
  ⟨rfl, rfl, rfl, by simp [World.setCell], fun j _ hne => Below.heap_setCell _ _ _ _ hne⟩
theorem cell_of_drew {wr w3 : World} {p : Addr} {u : Value} (hb : Below wr.drew.heap.size wr.drew w3) (h : wr.cell? p = some u) : w3.cell? p = some u :=
  (hb.cell (p := p) (World.block_lt_of_cell? wr _ h)).trans h
theorem _root_.Go.RowKit.Below.cells {A B : World} (hb : Below A.heap.size A B) {j : Nat} {o : Obj} (h : A.heap[j]? = some o) : B.heap[j]? = some o := (hb.block j (Array.getElem?_eq_some_iff.1 h).1).trans h

theorem drew_two (w : World) (p q : Nat) : (w.drewN p).drewN q = w.drewN (p + q) := by
  simp [World.drewN, Nat.add_assoc]

theorem has_drewN {w : World} {a : Option Addr} {zs : List Int} (h : Has w a zs) (q : Nat) : Has (w.drewN q) a zs := by
  rcases h with h | ⟨x, hx, hc⟩
  · exact .inl h
  · exact .inr ⟨x, hx, fun j hj => hc j hj⟩
theorem below_drewN {B : Nat} {w w' : World} (h : Below B w w') (q : Nat) : Below B w (w'.drewN q) := h.trans ⟨rfl, rfl, rfl, Nat.le_refl _, fun _ _ => rfl⟩

theorem octets_put {zs : List Int} (hz : Octets zs) (i : Nat) (z : Int) (h0 : 0 ≤ z) (h1 : z ≤ 255) : Octets (zs.set i z) := fun j => by
  have := hz j
  simp only [List.getD, List.getElem?_set] at *
  split
  · split
    · simp; omega
    · simp
  · exact this
theorem own_has' {w : World} {base n c : Nat} {a : Option Addr} {zs : List Int} (h : w.ownsRow base 5 1 (.slice a n c) n (vals zs)) : Has w a zs := by
  rcases h.2 with ⟨h1, h2⟩ | ⟨g, cp, cur, h1, _⟩
  · have h3 := h.1
    simp [vals_length, h2] at h3
    injection h1 with h4
    exact .inl ⟨h4, h3⟩
  · injection h1 with h4 h5 h6
    rw [h4] at h ⊢
    exact own_has h
end Go.Proofs.Ytmljljpldljpjab
