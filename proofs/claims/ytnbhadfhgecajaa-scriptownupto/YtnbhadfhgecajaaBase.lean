/-
  What the walks share: bytes behind a slice, rows of the call's own, the helper lent.
-/
import Derived.Test.YtnbhadfhgecajaaRows
import Derived.WalkKit
import Derived.WalkSpells
import Derived.WalkLawsBesides
import Derived.Below
import Derived.Outline
import Derived.Laws.BitsAllLaws
import Derived.Deep.AppendLies
import Derived.Laws.AppendOwnNone
import Derived.OpenShut
import Derived.Deep.DrawnRows
import Derived.Deep.RegionWith
namespace Go.Proofs.Ytnbhadfhgecajaa
open Go.RowKit
set_option linter.unusedVariables false

def Octets (zs : List Int) : Prop := ∀ i : Nat, 0 ≤ zs.getD i 0 ∧ zs.getD i 0 ≤ 255
theorem Try.info5 : (Try.prog.info? 5).map (fun i => (i.zero, i.size, i.bytes)) = some (some (.int .u8 0), 1, 1) := by kernel_rfl
/-- What is read behind a slice's address: nothing, or these bytes. -/
def Has (w : World) (a : Option Addr) (zs : List Int) : Prop := (a = none ∧ zs = []) ∨ ∃ x, a = some x ∧ ∀ j, j < zs.length → w.cell? (x.add j) = some (.int .u8 (zs.getD j 0))
def vals (zs : List Int) : List Value := zs.map (Value.int .u8)
theorem vals_length (zs : List Int) : (vals zs).length = zs.length := by simp [vals]
theorem vals_at (zs : List Int) (j : Nat) (u : Value) (h : (vals zs)[j]? = some u) : j < zs.length ∧ u = .int .u8 (zs.getD j 0) := by
  simp only [vals, List.getElem?_map, Option.map_eq_some_iff] at h
  obtain ⟨z, hz, rfl⟩ := h
  have hj := (List.getElem?_eq_some_iff.1 hz).1
  exact ⟨hj, by simp [List.getD, hz]⟩
theorem vals_get (zs : List Int) (j : Nat) (h : j < zs.length) : (vals zs)[j]? = some (.int .u8 (zs.getD j 0)) := by
  simp [vals, h]
theorem vals_one (zs : List Int) : ∀ u ∈ vals zs, u.oneCell' = true := by
  intro u hu
  obtain ⟨z, _, rfl⟩ := List.mem_map.1 hu
  rfl
theorem vals_append (a b : List Int) : vals (a ++ b) = vals a ++ vals b := by simp [vals]
theorem own_cap {w : World} {base : Nat} {e : TypeId} {size g n cap : Nat} {xs : List Value} (h : w.ownsRow base e size (.slice (some ⟨g, 0, none⟩) n cap) n xs) : n ≤ cap ∧ cap ≤ maxLen := by
  rcases h.2 with ⟨h, _⟩ | ⟨g', cap', cur, hv, _, _, h1, h2, _⟩
  · cases h
  · cases hv; exact ⟨h1, h2⟩
/-- What lent leaves. -/
def Lent (w : World) (zs : List Int) (v : Value) (w' : World) : Prop :=
  ∃ g cap, v = .slice (some ⟨g, 0, none⟩) zs.length cap ∧ w'.ownsRow w.heap.size 5 1 (.slice (some ⟨g, 0, none⟩) (zs.length + 2) cap) (zs.length + 2) (vals (zs ++ [201, 202])) ∧ Below w.heap.size w w'
theorem bcell {W w1 : World} (hb : Below W.heap.size W w1) : (∀ b o, b < W.heap.size → w1.cell? ⟨b, o, none⟩ = W.cell? ⟨b, o, none⟩) ∧ (∀ b o, b < W.heap.size → w1.frozen? ⟨b, o, none⟩ = W.frozen? ⟨b, o, none⟩) :=
  ⟨fun b o h => hb.cell (p := ⟨b, o, none⟩) h, fun b o h => hb.frozen (p := ⟨b, o, none⟩) h⟩
theorem Has.of_block {w : World} {B : Nat} {zs : List Int} {t : TypeId} {fr : Nat × Nat} (hb : w.heap[B]? = some (.cells (vals zs).toArray t fr)) : Has w (some ⟨B, 0, none⟩) zs :=
  .inr ⟨_, rfl, fun j hj => World.news_of_block hb j _ (by simpa using vals_get zs j hj)⟩
theorem Has.below {B : Nat} {w w' : World} {a : Option Addr} {zs : List Int} (h : Has w a zs) (hb : Below B w w') (hB : ∀ x, a = some x → 0 < zs.length → x.block < B) : Has w' a zs := by
  rcases h with h | ⟨x, rfl, hx⟩
  · exact .inl h
  · refine .inr ⟨x, rfl, fun j hj => ?_⟩
    have hxb : (x.add j).block < B := by
      have := hB x rfl (by omega)
      unfold Addr.add; split <;> simpa using this
    exact (hb.cell hxb).trans (hx j hj)
theorem Has.lt {w : World} {a : Option Addr} {zs : List Int} (h : Has w a zs) : ∀ x, a = some x → 0 < zs.length → x.block < w.heap.size := by
  intro x hx h0
  rcases h with ⟨rfl, _⟩ | ⟨y, rfl, hy⟩
  · cases hx
  · cases hx
    have := World.block_lt_of_cell? w _ (hy 0 h0)
    simpa [Addr.add] using this
theorem Has.of_below {w w' : World} {a : Option Addr} {zs : List Int} (h : Has w a zs) (hb : Below w.heap.size w w') : Has w' a zs := h.below hb h.lt
theorem has_news {w w' : World} {x : Addr} {zs : List Int} (HB : Hid (Has w (some x) zs)) (hb : Below w.heap.size w w') : ∀ j u, (vals zs)[j]? = some u → w'.cell? (x.add j) = some u := fun j u h => by
  obtain ⟨hj, rfl⟩ := vals_at zs j u h
  rcases HB.out.of_below hb with ⟨h, _⟩ | ⟨x', hx, hB⟩
  · cases h
  · cases hx; exact hB j hj
theorem Octets.nil : Octets [] := fun i => by simp

theorem lent_made {w w1 : World} {n : Nat} (hown : w1.ownsRow w.heap.size 5 1 (.slice (some ⟨w.heap.size, 0, none⟩) 0 (n + 2)) 0 []) (hg : w.grownBy w1 none) : Hid (w1.ownsRow w.heap.size 5 1 (.slice (some ⟨w.heap.size, 0, none⟩) 0 (n + 2)) 0 []) ∧ Hid (Below w.heap.size w w1) :=
  ⟨hown, (Below.refl _ w).grown hg (Nat.le_refl _) (fun k h => by cases h)⟩
theorem lent_two {w w1 w2 : World} {n : Nat} {zs : List Int} (B1 : Hid (Below w.heap.size w w1)) (hown : w2.ownsRow w.heap.size 5 1 (.slice (some ⟨w.heap.size, 0, none⟩) (0 + n) (n + 2)) (0 + n) ([] ++ vals zs)) (hg : w1.grownBy w2 (some w.heap.size)) : Hid (w2.ownsRow w.heap.size 5 1 (.slice (some ⟨w.heap.size, 0, none⟩) n (n + 2)) n (vals zs)) ∧ Hid (Below w.heap.size w w2) := by
  rw [Nat.zero_add, List.nil_append] at hown
  exact ⟨hown, B1.out.grown hg B1.out.size (fun k h => by cases h; omega)⟩
theorem lent_three {w w2 w3 : World} {n : Nat} {zs : List Int} {o : Obj} (hn : zs.length = n) (B2 : Hid (Below w.heap.size w w2)) (hown : w3.ownsRow w.heap.size 5 1 (.slice (some ⟨w.heap.size, 0, none⟩) (n + 2) (n + 2)) (n + 2) (vals zs ++ vals [201, 202])) (hg : (w2.alloc o).grownBy w3 (some w.heap.size)) : Hid (Lent w zs (.slice (some ⟨w.heap.size, 0, none⟩) n (n + 2)) w3) := by
  subst hn
  refine ⟨_, _, rfl, by rw [vals_append]; exact hown, ?_⟩
  exact (B2.out.alloc B2.out.size _).grown hg (by have := B2.out.size; simp; omega) (fun k h => by cases h; omega)

set_option maxHeartbeats 400000 in
theorem lent_some (x : Addr) (n cap : Nat) (zs : List Int) (w : World) (hn : zs.length = n) (hB : Has w (some x) zs) (hl : n ≤ 140737488351232) :
    Calls Try.prog 9 #[.slice (some x) n cap] w fun e w' => ∃ v, e = .returned v ∧ Lent w zs v w' := by
  obtain ⟨i0, hi, hz0, hz1, hz2⟩ := info_parts Try.info5
  have HB : Hid (Has w (some x) zs) := hB
  have HN : Hid (zs.length = n) := hn
  clear hB hn
  go_enter Try.func9, Try.ntmps9
  go_wp2_with (first
    | (at_make; refine wpList_make_own _ rfl (.const (.int .i64 0)) (.tmp 6) 22 rfl w.heap.size 5 i0 (.int .u8 0) 1 Try.underlying22 hi hz0 hz1 .i64 .i64 ((n : Int) + 2) (n + 2) rfl rfl (by omega) (by rw [hz2]; omega) (by unfold maxLen; omega) (Nat.le_refl _) ?_; intro w1 hown1 hgrow1; obtain ⟨O1, B1⟩ := lent_made hown1 hgrow1; have N1 := has_news HB B1.out; clear hown1 hgrow1)
    | (at_builtin; refine wpList_append_fits _ rfl (.tmp 8) (.tmp 9) 22 rfl w.heap.size 5 i0 1 Try.underlying22 hi hz1 w.heap.size 0 (n + 2) [] rfl O1.out x n cap (vals zs) rfl (by rw [vals_length, HN.out]; omega) N1 (vals_one _) (by omega) ?_; intro w2 hown2 hgrow2; obtain ⟨O2, B2⟩ := lent_two B1 hown2 hgrow2; clear hown2 hgrow2)
    | (at_builtin; refine wpList_append_fits _ rfl (.tmp 11) (.tmp 12) 22 rfl w.heap.size 5 i0 1 Try.underlying22 hi hz1 w.heap.size n (n + 2) (vals zs) rfl (O2.out.alloc _) ⟨w2.heap.size, 0, none⟩ 2 2 (vals [201, 202]) rfl rfl (World.news_of_block (heap_alloc_new w2 _)) (vals_one _) (by omega) ?_; intro w3 hown3 hgrow3; have HL := lent_three HN.out B2 hown3 hgrow3; clear hown3 hgrow3))
  go_ret
  exact ⟨_, rfl, HL.out⟩

set_option maxHeartbeats 400000 in
theorem lent_none (w : World) :
    Calls Try.prog 9 #[.slice none 0 0] w fun e w' => ∃ v, e = .returned v ∧ Lent w [] v w' := by
  obtain ⟨i0, hi, hz0, hz1, hz2⟩ := info_parts Try.info5
  go_enter Try.func9, Try.ntmps9
  go_wp2_with (first
    | (at_make; refine wpList_make_own _ rfl (.const (.int .i64 0)) (.tmp 6) 22 rfl w.heap.size 5 i0 (.int .u8 0) 1 Try.underlying22 hi hz0 hz1 .i64 .i64 2 2 rfl rfl (by omega) (by rw [hz2]; omega) (by unfold maxLen; omega) (Nat.le_refl _) ?_; intro w1 hown1 hgrow1; obtain ⟨O1, B1⟩ := lent_made (n := 0) hown1 hgrow1; clear hown1 hgrow1)
    | (at_builtin; refine wpList_append_own_none rfl (.tmp 8) (.tmp 9) 22 rfl w.heap.size 5 i0 1 Try.underlying22 hi (.slice (some ⟨w.heap.size, 0, none⟩) 0 2) 0 [] rfl O1.out rfl ?_)
    | (at_builtin; refine wpList_append_fits _ rfl (.tmp 11) (.tmp 12) 22 rfl w.heap.size 5 i0 1 Try.underlying22 hi hz1 w.heap.size 0 2 (vals []) rfl (O1.out.alloc _) ⟨w1.heap.size, 0, none⟩ 2 2 (vals [201, 202]) rfl rfl (World.news_of_block (heap_alloc_new w1 _)) (vals_one _) (by omega) ?_; intro w3 hown3 hgrow3; have HL := lent_three (zs := []) rfl B1 hown3 hgrow3; clear hown3 hgrow3))
  go_ret
  exact ⟨_, rfl, HL.out⟩

theorem lent_any (a : Option Addr) (n cap : Nat) (zs : List Int) (w : World) (hn : zs.length = n) (hB : Has w a zs) (hc : a = none → cap = 0) (hl : n ≤ 140737488351232) :
    Calls Try.prog 9 #[.slice a n cap] w fun e w' => ∃ v, e = .returned v ∧ Lent w zs v w' := by
  rcases hB with ⟨rfl, rfl⟩ | ⟨x, rfl, hB⟩
  · obtain rfl := hc rfl
    subst hn
    exact lent_none w
  · exact lent_some x n cap zs w hn (.inr ⟨x, rfl, hB⟩) hl

theorem Octets.append {a b : List Int} (ha : Octets a) (hb : Octets b) : Octets (a ++ b) := fun i => by
  by_cases h : i < a.length
  · have := ha i; simpa [List.getD, List.getElem?_append_left h] using this
  · have := hb (i - a.length); simpa [List.getD, List.getElem?_append_right (Nat.le_of_not_lt h)] using this
theorem Octets.take {a : List Int} (ha : Octets a) (k : Nat) : Octets (a.take k) := fun i => by
  by_cases hi : i < k
  · have := ha i
    rwa [show (a.take k).getD i 0 = a.getD i 0 by simp [List.getD, hi]]
  · rw [show (a.take k).getD i 0 = 0 by simp [List.getD, List.getElem?_take, hi]]; omega
theorem Octets.drop {a : List Int} (ha : Octets a) (k : Nat) : Octets (a.drop k) := fun i => by
  have := ha (k + i); simpa [List.getD] using this
theorem own_has {w : World} {base g n cap : Nat} {zs : List Int} (h : w.ownsRow base 5 1 (.slice (some ⟨g, 0, none⟩) n cap) n (vals zs)) : Has w (some ⟨g, 0, none⟩) zs :=
  .inr ⟨_, rfl, fun j hj => h.cells rfl j _ (vals_get zs j hj)⟩
/-- A slice of bytes that is there. -/
structure Bs (W : World) (a : Option Addr) (n cap : Nat) (zs : List Int) : Prop where
  len : zs.length = n
  has : Has W a zs
  oct : Octets zs
  bare : a = none → cap = 0
  fits : n ≤ cap
  cap : cap ≤ maxLen
  small : n ≤ 140737488355328
theorem Bs.below {w W : World} {a : Option Addr} {n cap : Nat} {zs : List Int} (h : Bs w a n cap zs) (hb : Below w.heap.size w W) : Bs W a n cap zs := ⟨h.len, h.has.of_below hb, h.oct, h.bare, h.fits, h.cap, h.small⟩
theorem Bs.nil (w : World) : Bs w none 0 0 [] := ⟨rfl, .inl ⟨rfl, rfl⟩, Octets.nil, fun _ => rfl, Nat.le_refl _, by decide, by decide⟩
theorem add_add (x : Addr) (k j : Nat) : (x.add k).add j = x.add (k + j) := by
  unfold Addr.add
  by_cases hk : k = 0 <;> by_cases hj : j = 0 <;> simp [hk, hj, Nat.add_assoc]
theorem Bs.front {w : World} {x : Addr} {n cap : Nat} {zs : List Int} (h : Bs w (some x) n cap zs) (k : Nat) (hk : k ≤ n) : Bs w (some x) k cap (zs.take k) := by
  have := h.len; have := h.fits; have := h.small
  refine ⟨by simp; omega, ?_, h.oct.take k, (fun h => by cases h), by omega, h.cap, by omega⟩
  rcases h.has with ⟨h, _⟩ | ⟨y, hy, hB⟩
  · cases h
  · refine .inr ⟨y, hy, fun j hj => ?_⟩
    have hj' : j < k := by simp at hj; omega
    rw [hB j (by omega)]; simp [List.getD, hj']
theorem Bs.back {w : World} {x : Addr} {n cap : Nat} {zs : List Int} (h : Bs w (some x) n cap zs) (k : Nat) (hk : k ≤ n) : Bs w (some (x.add k)) (n - k) (cap - k) (zs.drop k) := by
  have := h.len; have := h.fits; have := h.small; have := h.cap
  refine ⟨by simp; omega, ?_, h.oct.drop k, (fun h => by cases h), by omega, by omega, by omega⟩
  rcases h.has with ⟨h, _⟩ | ⟨y, hy, hB⟩
  · cases h
  · cases hy
    refine .inr ⟨_, rfl, fun j hj => ?_⟩
    rw [add_add, hB (k + j) (by simp at hj; omega)]; simp [List.getD]
theorem lent_rel (w W : World) (a : Option Addr) (n cap : Nat) (zs : List Int) (hW : Below w.heap.size w W) (h : Bs w a n cap zs) (hl : n ≤ 140737488351232) :
    Calls Try.prog 9 #[.slice a n cap] W fun e w' => ∃ g cp, e = .returned (.slice (some ⟨g, 0, none⟩) n cp) ∧ Bs w' (some ⟨g, 0, none⟩) n cp zs ∧ Below w.heap.size w w' := by
  refine (lent_any a n cap zs W h.len (h.has.of_below hW) h.bare hl).mono ?_
  rintro e w' ⟨v, rfl, g, cp, rfl, hown, hb⟩
  have hc := own_cap hown
  have hn := h.len
  rw [hn]
  refine ⟨g, cp, rfl, ⟨hn, ?_, h.oct, (fun h => by cases h), by omega, hc.2, h.small⟩, hW.trans (hb.mono hW.size)⟩
  rcases own_has hown with ⟨h, _⟩ | ⟨x, hx, hB⟩
  · cases h
  · refine .inr ⟨x, hx, fun j hj => ?_⟩
    rw [hB j (by simp; omega)]
    simp [List.getD, List.getElem?_append_left hj]
/-- Bytes in memory of their own, the two marks behind them. -/
structure Row (w : World) (base g n cap : Nat) (zs : List Int) : Prop where
  len : zs.length = n
  oct : Octets zs
  small : n ≤ 140737488351232
  owns : w.ownsRow base 5 1 (.slice (some ⟨g, 0, none⟩) (n + 2) cap) (n + 2) (vals (zs ++ [201, 202]))
theorem Row.cap {w : World} {base g n cap : Nat} {zs : List Int} (h : Row w base g n cap zs) : n + 2 ≤ cap ∧ cap ≤ maxLen := own_cap h.owns
theorem Row.lt {w : World} {base g n cap : Nat} {zs : List Int} (h : Row w base g n cap zs) : base ≤ g ∧ g < w.heap.size := h.owns.lt g rfl
theorem Row.has {w : World} {base g n cap : Nat} {zs : List Int} (h : Row w base g n cap zs) : Has w (some ⟨g, 0, none⟩) zs := by
  rcases own_has h.owns with ⟨h, _⟩ | ⟨x, hx, hB⟩
  · cases h
  · refine .inr ⟨x, hx, fun j hj => ?_⟩
    rw [hB j (by simp; omega)]
    simp [List.getD, List.getElem?_append_left hj]
theorem Row.bs {w : World} {base g n cap : Nat} {zs : List Int} (h : Row w base g n cap zs) : Bs w (some ⟨g, 0, none⟩) n cap zs := by
  have hc := h.cap; have := h.small
  exact ⟨h.len, h.has, h.oct, (fun h => by cases h), by omega, hc.2, by omega⟩
theorem Row.cellAt {w : World} {base g n cap : Nat} {zs : List Int} (h : Row w base g n cap zs) (j : Nat) (hj : j < n + 2) : w.cell? ⟨g, j, none⟩ = some (.int .u8 ((zs ++ [201, 202]).getD j 0)) := by
  rw [h.owns.cellAt j (by omega), vals_get _ j (by simp; have := h.len; omega)]
theorem Row.marks {w : World} {base g n cap : Nat} {zs : List Int} (h : Row w base g n cap zs) : w.cell? ⟨g, n, none⟩ = some (.int .u8 201) ∧ w.cell? ⟨g, n + 1, none⟩ = some (.int .u8 202) := by
  have hn := h.len
  refine ⟨?_, ?_⟩
  · rw [h.cellAt n (by omega)]; simp [List.getD, ← hn]
  · rw [h.cellAt (n + 1) (by omega)]; simp [List.getD, ← hn]
theorem Row.below {w w' : World} {B base g n cap : Nat} {zs : List Int} (h : Row w base g n cap zs) (hb : Below B w w') (hg : g < B) : Row w' base g n cap zs :=
  ⟨h.len, h.oct, h.small, by
    refine ⟨h.owns.1, ?_⟩
    rcases h.owns.2 with ⟨h, _⟩ | ⟨g', cap', cur, hv, hbg, hgg, rest⟩
    · cases h
    · cases hv
      exact .inr ⟨g, cap, cur, rfl, hbg, (hb.block g hg).trans hgg, rest⟩⟩
theorem wpList_append_form {P : Program} (w : World) {ops : Array Oper} {rest : List Oper} {o : Oper} {a : Act} {Q : Exit → Act → World → Prop} (hgd : o.guard = none) (s x : Operand) (t : TypeId)
    (ho : o.op = .call { callee := .builtin .append, args := #[s, x], argTypes := #[t, t] })
    (base : Nat) (e : TypeId) (i : TypeInfo) (z : Value) (size bytes : Nat) (ht : P.underlying t = some (.slice e)) (hi : P.info? e = some i) (hz : i.zero = some z)
    (hsize : i.size = size) (hby : i.bytes = bytes) (hzs : z.cells.size = size) (hsz : 0 < size)
    (v : Value) (n : Nat) (xs : List Value) (hs : a.eval s = v) (hown : w.ownsRow base e size v n xs)
    (ad : Addr) (m c : Nat) (news : List Value) (hx : a.eval x = .slice (some ad) m c) (hl : news.length = m * size) (hnews : ∀ j u, news[j]? = some u → w.cell? (ad.add j) = some u) (h1 : ∀ u ∈ news, u.oneCell' = true)
    (hnm : 0 < n + m) (h63 : n + m ≤ maxLen) (hbytes : (n + m) * bytes ≤ 140737488355328) (hbase : base ≤ w.heap.size)
    (h : ∀ g cap w', w'.ownsRow base e size (.slice (some ⟨g, 0, none⟩) (n + m) cap) (n + m) (xs ++ news) → w.grownBy w' v.ownBlock → wpList P ops Q rest (a.put o.dst (.slice (some ⟨g, 0, none⟩) (n + m) cap)) w') : wpList P ops Q (o :: rest) a w :=
  wpList_append_own w hgd s x t ho base e i z size bytes ht hi hz hsize hby hzs hsz v n xs hs hown ad m c news hx hl hnews h1 h63 hbytes hbase (fun v' w' ho' hg _ => by
    obtain ⟨g, cap, rfl, _⟩ := ho'.form hnm
    exact h g cap w' ho' hg)
theorem own_below {w w' : World} {B base g n cap : Nat} {xs : List Value} (h : w.ownsRow base 5 1 (.slice (some ⟨g, 0, none⟩) n cap) n xs) (hb : Below B w w') (hg : g < B) : w'.ownsRow base 5 1 (.slice (some ⟨g, 0, none⟩) n cap) n xs := by
  refine ⟨h.1, ?_⟩
  rcases h.2 with ⟨h, _⟩ | ⟨g', cap', cur, hv, hbg, hgg, rest⟩
  · cases h
  · cases hv
    exact .inr ⟨g, cap, cur, rfl, hbg, (hb.block g hg).trans hgg, rest⟩
theorem lent_row (a : Option Addr) (n cap : Nat) (zs : List Int) (w : World) (hn : zs.length = n) (hB : Has w a zs) (hz : Octets zs) (hc : a = none → cap = 0) (hl : n ≤ 140737488351232) :
    Calls Try.prog 9 #[.slice a n cap] w fun e w' => ∃ g cp, e = .returned (.slice (some ⟨g, 0, none⟩) n cp) ∧ Row w' w.heap.size g n cp zs ∧ Below w.heap.size w w' := by
  refine (lent_any a n cap zs w hn hB hc hl).mono ?_
  rintro e w' ⟨v, rfl, g, cp, rfl, hown, hb⟩
  rw [hn] at hown ⊢
  exact ⟨g, cp, rfl, ⟨hn, hz, hl, hown⟩, hb⟩
theorem has_front {w : World} {a : Option Addr} {zs : List Int} (h : Has w a zs) (k : Nat) (hk : k ≤ zs.length) : Has w a (zs.take k) := by
  rcases h with ⟨rfl, rfl⟩ | ⟨x, rfl, hB⟩
  · exact .inl ⟨rfl, by simp⟩
  · refine .inr ⟨x, rfl, fun j hj => ?_⟩
    have hj' : j < k := by simp at hj; omega
    rw [hB j (by omega)]; simp [List.getD, hj']
/-- A slice of bytes, with what it holds. -/
structure Sl where
  a : Option Addr
  n : Nat
  cap : Nat
  zs : List Int
abbrev Sl.val (s : Sl) : Value := .slice s.a s.n s.cap
theorem own_block {w w' : World} {base : Nat} {e : TypeId} {v : Value} {n : Nat} {xs : List Value} (h : w.ownsRow base e 1 v n xs) (hb : ∀ k, v.ownBlock = some k → w'.heap[k]? = w.heap[k]?) : w'.ownsRow base e 1 v n xs := by
  refine ⟨h.1, ?_⟩
  rcases h.2 with h0 | ⟨g, cap, cur, rfl, hbg, hgg, rest⟩
  · exact .inl h0
  · exact .inr ⟨g, cap, cur, rfl, hbg, (hb g rfl).trans hgg, rest⟩
theorem own_base {w : World} {base base' : Nat} {e : TypeId} {v : Value} {n : Nat} {xs : List Value} (h : w.ownsRow base e 1 v n xs) (hb : base' ≤ base) : w.ownsRow base' e 1 v n xs := by
  refine ⟨h.1, ?_⟩
  rcases h.2 with h0 | ⟨g, cap, cur, rfl, hbg, rest⟩
  · exact .inl h0
  · exact .inr ⟨g, cap, cur, rfl, Nat.le_trans hb hbg, rest⟩
theorem row_type {w : World} {base : Nat} {e : TypeId} {v : Value} {n : Nat} {xs : List Value} {g : Nat} {cs : Array Value} {t : TypeId} {fr : Nat × Nat} (h : w.ownsRow base e 1 v n xs) (hg : w.heap[g]? = some (.cells cs t fr)) (hne : t ≠ e) : some g ≠ v.ownBlock := by
  rcases h.2 with ⟨rfl, _⟩ | ⟨g', cap, cur, rfl, _, hgg, _⟩
  · simp [Value.ownBlock]
  · simp only [Value.ownBlock]
    intro e'
    cases e'
    rw [hgg] at hg
    cases hg
    exact hne rfl
theorem rows_ne {w : World} {b1 b2 : Nat} {e1 e2 : TypeId} {v1 v2 : Value} {n1 n2 : Nat} {x1 x2 : List Value} (h1 : w.ownsRow b1 e1 1 v1 n1 x1) (h2 : w.ownsRow b2 e2 1 v2 n2 x2) (hne : e1 ≠ e2) : v1.ownBlock = none ∨ v1.ownBlock ≠ v2.ownBlock := by
  rcases h1.2 with ⟨rfl, _⟩ | ⟨g, cp, cur, rfl, _, hgg, _⟩
  · exact .inl rfl
  · exact .inr (row_type h2 hgg hne)
theorem own_belowV {w w' : World} {B base : Nat} {e : TypeId} {v : Value} {n : Nat} {xs : List Value} (h : w.ownsRow base e 1 v n xs) (hb : Below B w w') (hB : w.heap.size ≤ B) : w'.ownsRow base e 1 v n xs :=
  own_block h (fun k hk => hb.block k (Nat.lt_of_lt_of_le (h.lt k hk).2 hB))
theorem own_bs {w : World} {base : Nat} {v : Value} {n : Nat} {zs : List Int} (h : w.ownsRow base 5 1 v n (vals zs)) (hz : Octets zs) (hl : n ≤ 140737488351232) : ∃ a cp, v = .slice a n cp ∧ Bs w a n cp zs := by
  have hn : zs.length = n := by have := h.1; simp [vals_length] at this; exact this
  rcases h.2 with ⟨rfl, h0⟩ | ⟨g, cp, cur, rfl, _, _, hc, hm, _⟩
  · subst h0
    obtain rfl : zs = [] := List.length_eq_zero_iff.1 hn
    exact ⟨none, 0, rfl, Bs.nil w⟩
  · exact ⟨_, cp, rfl, hn, own_has h, hz, (fun h => by cases h), hc, hm, by omega⟩
theorem Row.front {w : World} {base g n cap : Nat} {zs : List Int} (h : Row w base g n cap zs) : w.ownsRow base 5 1 (.slice (some ⟨g, 0, none⟩) n cap) n (vals zs) := by
  refine ⟨by rw [vals_length, h.len]; omega, ?_⟩
  rcases h.owns.2 with ⟨h, _⟩ | ⟨g', cap', cur, hv, hb, hg, hc, hm, hs, ht⟩
  · cases h
  · cases hv
    refine .inr ⟨g, cap, cur, rfl, hb, hg, by omega, hm, hs, ?_⟩
    have := congrArg (List.take n) ht
    rw [List.take_take, vals_append, List.take_left' (by rw [vals_length, h.len])] at this
    rw [← this]; congr 1; omega
theorem Bs.frontAny {w : World} {a : Option Addr} {n cap : Nat} {zs : List Int} (h : Bs w a n cap zs) (k : Nat) (hk : k ≤ n) : Bs w a k cap (zs.take k) := by
  have := h.len; have := h.fits; have := h.small
  exact ⟨by simp; omega, has_front h.has k (by omega), h.oct.take k, h.bare, by omega, h.cap, by omega⟩
end Go.Proofs.Ytnbhadfhgecajaa
