/-
  Slices of bytes, rows of the call's own.
-/
import Derived.Test.YtapejmmefhbadaaDoorAwake
import Derived.Deep.DrawnRows
import Derived.Deep.RegionWith
import Derived.Deep.QuietTactic
import Derived.BigQuiet
import Derived.Laws.StructEq
namespace Go.Proofs.YtapejmmefhbadaaDoor
open Go.RowKit
set_option linter.unusedVariables false

/-- A slice of bytes that is there. -/
structure Bs (W : World) (a : Option Addr) (n cap : Nat) (zs : List Int) : Prop where
  len : zs.length = n
  has : Has W a zs
  oct : Octets zs
  bare : a = none → cap = 0
  fits : n ≤ cap
  cap : cap ≤ maxLen
  small : n ≤ 140737488355328
theorem Bs.below {w W : World} {a : Option Addr} {n cap : Nat} {zs : List Int} (h : Bs w a n cap zs) (hb : Below w.heap.size w W) : Bs W a n cap zs := ⟨h.len, h.has.of_below hb, h.oct, h.bare, h.fits, h.cap, h.small⟩

/-- Bits of a 32-bit number. -/
def U32 (c : Int) : Prop := 0 ≤ c ∧ c < 4294967296

theorem Bs.nil (w : World) : Bs w none 0 0 [] := ⟨rfl, .inl ⟨rfl, rfl⟩, Octets.nil, fun _ => rfl, Nat.le_refl _, by decide, by decide⟩
theorem add_add (x : Addr) (k j : Nat) : (x.add k).add j = x.add (k + j) := by
  unfold Addr.add
  by_cases hk : k = 0 <;> by_cases hj : j = 0 <;> simp [hk, hj, Nat.add_assoc]
theorem Bs.front {w : World} {x : Addr} {n cap : Nat} {zs : List Int} (h : Bs w (some x) n cap zs) (k : Nat) (hk : k ≤ n) : Bs w (some x) k cap (zs.take k) := by
  have := h.len; have := h.fits; have := h.small
  refine ⟨by simp; omega, ?_, h.oct.take k, (fun h => by cases h), by omega, h.cap, by omega⟩
  rcases h.has with ⟨h, _⟩ | ⟨y, hy, hB⟩
  · cases h
  · refine .inr ⟨y, hy, fun j hj => ?_⟩
    have hj' : j < k := by simp at hj; omega
    rw [hB j (by omega)]; simp [List.getD, hj']
theorem Bs.back {w : World} {x : Addr} {n cap : Nat} {zs : List Int} (h : Bs w (some x) n cap zs) (k : Nat) (hk : k ≤ n) : Bs w (some (x.add k)) (n - k) (cap - k) (zs.drop k) := by
  have := h.len; have := h.fits; have := h.small; have := h.cap
  refine ⟨by simp; omega, ?_, h.oct.drop k, (fun h => by cases h), by omega, by omega, by omega⟩
  rcases h.has with ⟨h, _⟩ | ⟨y, hy, hB⟩
  · cases h
  · cases hy
    refine .inr ⟨_, rfl, fun j hj => ?_⟩
    rw [add_add, hB (k + j) (by simp at hj; omega)]; simp [List.getD]
theorem parts_facts (A B zs : List Int) (c : Int) (h : A ++ B = zs) (hA : Octets A) (hc : U32 c) : moreF (moreF 0 A) B = moreF 0 zs ∧ moreF (moreF c A) B = moreF c zs ∧ moreF c [] = c ∧ U32 (moreF 0 A) ∧ U32 (moreF c A) := by
  subst h
  exact ⟨moreF_append 0 A B hA (by decide) (by decide), moreF_append c A B hA hc.1 hc.2, moreF_nil c hc.1 hc.2, moreF_bd 0 A hA (by decide) (by decide), moreF_bd c A hA hc.1 hc.2⟩

theorem lent_rel (w W : World) (a : Option Addr) (n cap : Nat) (zs : List Int) (hW : Below w.heap.size w W) (h : Bs w a n cap zs) (hl : n ≤ 140737488351232) :
    Calls Tryd.prog 10 #[.slice a n cap] W fun e w' => ∃ g cp, e = .returned (.slice (some ⟨g, 0, none⟩) n cp) ∧ Bs w' (some ⟨g, 0, none⟩) n cp zs ∧ Below w.heap.size w w' := by
  refine (lent_any a n cap zs W h.len (h.has.of_below hW) h.bare hl).mono ?_
  rintro e w' ⟨v, rfl, g, cp, rfl, hown, hb⟩
  have hc := own_cap hown
  have hn := h.len
  rw [hn]
  refine ⟨g, cp, rfl, ⟨hn, ?_, h.oct, (fun h => by cases h), by omega, hc.2, h.small⟩, hW.trans (hb.mono hW.size)⟩
  rcases own_has hown with ⟨h, _⟩ | ⟨x, hx, hB⟩
  · cases h
  · refine .inr ⟨x, hx, fun j hj => ?_⟩
    rw [hB j (by simp; omega)]
    simp [List.getD, List.getElem?_append_left hj]
/-- Bytes in memory of their own, the two marks behind them. -/
structure Row (w : World) (base g n cap : Nat) (zs : List Int) : Prop where
  len : zs.length = n
  oct : Octets zs
  small : n ≤ 140737488351232
  owns : w.ownsRow base 5 1 (.slice (some ⟨g, 0, none⟩) (n + 2) cap) (n + 2) (vals (zs ++ [201, 202]))
theorem Row.cap {w : World} {base g n cap : Nat} {zs : List Int} (h : Row w base g n cap zs) : n + 2 ≤ cap ∧ cap ≤ maxLen := own_cap h.owns
theorem Row.lt {w : World} {base g n cap : Nat} {zs : List Int} (h : Row w base g n cap zs) : base ≤ g ∧ g < w.heap.size := h.owns.lt g rfl
theorem Row.has {w : World} {base g n cap : Nat} {zs : List Int} (h : Row w base g n cap zs) : Has w (some ⟨g, 0, none⟩) zs := by
  rcases own_has h.owns with ⟨h, _⟩ | ⟨x, hx, hB⟩
  · cases h
  · refine .inr ⟨x, hx, fun j hj => ?_⟩
    rw [hB j (by simp; omega)]
    simp [List.getD, List.getElem?_append_left hj]
theorem Row.bs {w : World} {base g n cap : Nat} {zs : List Int} (h : Row w base g n cap zs) : Bs w (some ⟨g, 0, none⟩) n cap zs := by
  have hc := h.cap; have := h.small
  exact ⟨h.len, h.has, h.oct, (fun h => by cases h), by omega, hc.2, by omega⟩
theorem Row.cellAt {w : World} {base g n cap : Nat} {zs : List Int} (h : Row w base g n cap zs) (j : Nat) (hj : j < n + 2) : w.cell? ⟨g, j, none⟩ = some (.int .u8 ((zs ++ [201, 202]).getD j 0)) := by
  rw [h.owns.cellAt j (by omega), vals_get _ j (by simp; have := h.len; omega)]
theorem Row.marks {w : World} {base g n cap : Nat} {zs : List Int} (h : Row w base g n cap zs) : w.cell? ⟨g, n, none⟩ = some (.int .u8 201) ∧ w.cell? ⟨g, n + 1, none⟩ = some (.int .u8 202) := by
  have hn := h.len
  refine ⟨?_, ?_⟩
  · rw [h.cellAt n (by omega)]; simp [List.getD, ← hn]
  · rw [h.cellAt (n + 1) (by omega)]; simp [List.getD, ← hn]
theorem Row.below {w w' : World} {B base g n cap : Nat} {zs : List Int} (h : Row w base g n cap zs) (hb : Below B w w') (hg : g < B) : Row w' base g n cap zs :=
  ⟨h.len, h.oct, h.small, by
    refine ⟨h.owns.1, ?_⟩
    rcases h.owns.2 with ⟨h, _⟩ | ⟨g', cap', cur, hv, hbg, hgg, rest⟩
    · cases h
    · cases hv
      exact .inr ⟨g, cap, cur, rfl, hbg, (hb.block g hg).trans hgg, rest⟩⟩

theorem wpList_append_form {P : Program} (w : World) {ops : Array Oper} {rest : List Oper} {o : Oper} {a : Act} {Q : Exit → Act → World → Prop} (hgd : o.guard = none) (s x : Operand) (t : TypeId)
    (ho : o.op = .call { callee := .builtin .append, args := #[s, x], argTypes := #[t, t] })
    (base : Nat) (e : TypeId) (i : TypeInfo) (z : Value) (size bytes : Nat) (ht : P.underlying t = some (.slice e)) (hi : P.info? e = some i) (hz : i.zero = some z)
    (hsize : i.size = size) (hby : i.bytes = bytes) (hzs : z.cells.size = size) (hsz : 0 < size)
    (v : Value) (n : Nat) (xs : List Value) (hs : a.eval s = v) (hown : w.ownsRow base e size v n xs)
    (ad : Addr) (m c : Nat) (news : List Value) (hx : a.eval x = .slice (some ad) m c) (hl : news.length = m * size) (hnews : ∀ j u, news[j]? = some u → w.cell? (ad.add j) = some u) (h1 : ∀ u ∈ news, u.oneCell' = true)
    (hnm : 0 < n + m) (h63 : n + m ≤ maxLen) (hbytes : (n + m) * bytes ≤ 140737488355328) (hbase : base ≤ w.heap.size)
    (h : ∀ g cap w', w'.ownsRow base e size (.slice (some ⟨g, 0, none⟩) (n + m) cap) (n + m) (xs ++ news) → w.grownBy w' v.ownBlock → wpList P ops Q rest (a.put o.dst (.slice (some ⟨g, 0, none⟩) (n + m) cap)) w') : wpList P ops Q (o :: rest) a w :=
  wpList_append_own w hgd s x t ho base e i z size bytes ht hi hz hsize hby hzs hsz v n xs hs hown ad m c news hx hl hnews h1 h63 hbytes hbase (fun v' w' ho' hg _ => by
    obtain ⟨g, cap, rfl, _⟩ := ho'.form hnm
    exact h g cap w' ho' hg)
theorem has_news {w w' : World} {x : Addr} {zs : List Int} (HB : Hid (Has w (some x) zs)) (hb : Below w.heap.size w w') : ∀ j u, (vals zs)[j]? = some u → w'.cell? (x.add j) = some u := fun j u h => by
  obtain ⟨hj, rfl⟩ := vals_at zs j u h
  rcases HB.out.of_below hb with ⟨h, _⟩ | ⟨x', hx, hB⟩
  · cases h
  · cases hx; exact hB j hj
theorem own_below {w w' : World} {B base g n cap : Nat} {xs : List Value} (h : w.ownsRow base 5 1 (.slice (some ⟨g, 0, none⟩) n cap) n xs) (hb : Below B w w') (hg : g < B) : w'.ownsRow base 5 1 (.slice (some ⟨g, 0, none⟩) n cap) n xs := by
  refine ⟨h.1, ?_⟩
  rcases h.2 with ⟨h, _⟩ | ⟨g', cap', cur, hv, hbg, hgg, rest⟩
  · cases h
  · cases hv
    exact .inr ⟨g, cap, cur, rfl, hbg, (hb.block g hg).trans hgg, rest⟩
theorem has_front {w : World} {a : Option Addr} {zs : List Int} (h : Has w a zs) (k : Nat) (hk : k ≤ zs.length) : Has w a (zs.take k) := by
  rcases h with ⟨rfl, rfl⟩ | ⟨x, rfl, hB⟩
  · exact .inl ⟨rfl, by simp⟩
  · refine .inr ⟨x, rfl, fun j hj => ?_⟩
    have hj' : j < k := by simp at hj; omega
    rw [hB j (by omega)]; simp [List.getD, hj']
theorem has_mid {w : World} {b off : Nat} {zs : List Int} (h : Has w (some ⟨b, off, none⟩) zs) (k m : Nat) (hk : k + m ≤ zs.length) : Has w (some ⟨b, off + k, none⟩) ((zs.drop k).take m) := by
  rcases h with ⟨h, _⟩ | ⟨x, hx, hB⟩
  · cases h
  · cases hx
    refine .inr ⟨_, rfl, fun j hj => ?_⟩
    have hj' : j < m := by simp at hj; omega
    have := hB (k + j) (by omega)
    rw [Go.WideShapes.add_plain] at this ⊢
    rw [Nat.add_assoc, this]; simp [List.getD, hj']
theorem has_drewN {w : World} {a : Option Addr} {zs : List Int} (h : Has w a zs) (k : Nat) : Has (w.drewN k) a zs := h
theorem Has.some {w : World} {x : Addr} {zs : List Int} (h : Has w (some x) zs) : ∀ j, j < zs.length → w.cell? (x.add j) = some (.int .u8 (zs.getD j 0)) := by
  rcases h with ⟨h, _⟩ | ⟨y, hy, hB⟩
  · cases h
  · cases hy; exact hB
theorem lent_row (a : Option Addr) (n cap : Nat) (zs : List Int) (w : World) (hn : zs.length = n) (hB : Has w a zs) (hz : Octets zs) (hc : a = none → cap = 0) (hl : n ≤ 140737488351232) :
    Calls Tryd.prog 10 #[.slice a n cap] w fun e w' => ∃ g cp, e = .returned (.slice (some ⟨g, 0, none⟩) n cp) ∧ Row w' w.heap.size g n cp zs ∧ Below w.heap.size w w' := by
  refine (lent_any a n cap zs w hn hB hc hl).mono ?_
  rintro e w' ⟨v, rfl, g, cp, rfl, hown, hb⟩
  rw [hn] at hown ⊢
  exact ⟨g, cp, rfl, ⟨hn, hz, hl, hown⟩, hb⟩

theorem octets_set {zs : List Int} (hz : Octets zs) (i : Nat) (z : Int) (h0 : 0 ≤ z) (h1 : z ≤ 255) : Octets (zs.set i z) := fun j => by
  have := hz j
  simp only [List.getD, List.getElem?_set] at *
  split
  · split
    · simp; omega
    · simp
  · exact this
theorem vals_set (zs : List Int) (i : Nat) (z : Int) : vals (zs.set i z) = (vals zs).set i (.int .u8 z) := by simp [vals, List.map_set]
theorem block_set {w : World} {g : Nat} {ps : List Int} (h : w.heap[g]? = some (.cells (vals ps).toArray 5 (0, 0))) (i : Nat) (z : Int) : (w.setCell ⟨g, i, none⟩ (.int .u8 z)).heap[g]? = some (.cells (vals (ps.set i z)).toArray 5 (0, 0)) := by
  rw [heap_setCell_same w g i _ 5 _ h, vals_set]; simp
theorem Row.stored {w : World} {base g n cap : Nat} {zs : List Int} (h : Row w base g n cap zs) (i : Nat) (z : Int) (hi : i < n) (h0 : 0 ≤ z) (h1 : z ≤ 255) : Row (w.setCell ⟨g, i, none⟩ (.int .u8 z)) base g n cap (zs.set i z) := by
  refine ⟨by simpa using h.len, octets_set h.oct i z h0 h1, h.small, ?_⟩
  have := (h.owns.stored i (.int .u8 z)).1
  rw [← vals_set, List.set_append_left _ _ (by have := h.len; omega)] at this
  exact this
end Go.Proofs.YtapejmmefhbadaaDoor
