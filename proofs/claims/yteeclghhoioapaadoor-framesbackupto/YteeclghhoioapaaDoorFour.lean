/-
  The contracts of sum.split, sum.join, sum.checkOf and sum.fresh.
-/
import Derived.Test.YteeclghhoioapaaDoorCrc
import Derived.Laws.CopyOwn
namespace Go.Proofs.YteeclghhoioapaaDoor
open Go.RowKit
set_option linter.unusedVariables false

/-- A number's four bytes, the highest first. -/
def four (n : Int) : List Int := [n / 16777216, n / 65536 % 256, n / 256 % 256, n % 256]
abbrev arr4 (a b c d : Int) : Value := .agg #[.int .u8 a, .int .u8 b, .int .u8 c, .int .u8 d]

theorem bcell {W w1 : World} (hb : Below W.heap.size W w1) : (∀ b o, b < W.heap.size → w1.cell? ⟨b, o, none⟩ = W.cell? ⟨b, o, none⟩) ∧ (∀ b o, b < W.heap.size → w1.frozen? ⟨b, o, none⟩ = W.frozen? ⟨b, o, none⟩) :=
  ⟨fun b o h => hb.cell (p := ⟨b, o, none⟩) h, fun b o h => hb.frozen (p := ⟨b, o, none⟩) h⟩
theorem Tab.below {B : Nat} {w w' : World} (h : Tab w) (hb : Below B w w') (hB : 0 < B) : Tab w' := fun i hi => (hb.cell (p := ⟨0, i, none⟩) hB).trans (h i hi)
theorem Tab.pos {w : World} (h : Tab w) : 0 < w.heap.size := by
  have := World.block_lt_of_cell? w _ (h 0 (by decide))
  simpa using this
theorem Has.below {B : Nat} {w w' : World} {a : Option Addr} {zs : List Int} (h : Has w a zs) (hb : Below B w w') (hB : ∀ x, a = some x → 0 < zs.length → x.block < B) : Has w' a zs := by
  rcases h with h | ⟨x, rfl, hx⟩
  · exact .inl h
  · refine .inr ⟨x, rfl, fun j hj => ?_⟩
    have hxb : (x.add j).block < B := by
      have := hB x rfl (by omega)
      unfold Addr.add; split <;> simpa using this
    exact (hb.cell hxb).trans (hx j hj)
theorem Has.lt {w : World} {a : Option Addr} {zs : List Int} (h : Has w a zs) : ∀ x, a = some x → 0 < zs.length → x.block < w.heap.size := by
  intro x hx h0
  rcases h with ⟨rfl, _⟩ | ⟨y, rfl, hy⟩
  · cases hx
  · cases hx
    have := World.block_lt_of_cell? w _ (hy 0 h0)
    simpa [Addr.add] using this
theorem Has.of_block {w : World} {B : Nat} {zs : List Int} {t : TypeId} {fr : Nat × Nat} (hb : w.heap[B]? = some (.cells (vals zs).toArray t fr)) : Has w (some ⟨B, 0, none⟩) zs :=
  .inr ⟨_, rfl, fun j hj => World.news_of_block hb j _ (by simpa using vals_get zs j hj)⟩
theorem Has.of_below {w w' : World} {a : Option Addr} {zs : List Int} (h : Has w a zs) (hb : Below w.heap.size w w') : Has w' a zs := h.below hb h.lt

set_option maxHeartbeats 400000 in
theorem split_any (n : Int) (w : World) (h0 : 0 ≤ n) (h1 : n < 4294967296) :
    Calls Tryd.prog 41 #[.int .u32 n] w fun e w' => e = .returned (arr4 (n / 16777216) (n / 65536 % 256) (n / 256 % 256) (n % 256)) ∧ Below w.heap.size w w' := by
  go_enter Tryd.func41, Tryd.ntmps41
  go_wp2
  exact bodyPost_ret (v := arr4 (n / 16777216) (n / 65536 % 256) (n / 256 % 256) (n % 256)) (by simp [results, Tryd.results41, go_sem]) rfl ⟨rfl, (Below.refl _ _).alloc (Nat.le_refl _) _⟩

theorem or_join (a b c d : Int) (ha0 : 0 ≤ a) (ha1 : a ≤ 255) (hb0 : 0 ≤ b) (hb1 : b ≤ 255) (hc0 : 0 ≤ c) (hc1 : c ≤ 255) (hd0 : 0 ≤ d) (hd1 : d ≤ 255) :
    bits .or .u32 (bits .or .u32 (bits .or .u32 (a * 16777216) (b * 65536)) (c * 256)) d = a * 16777216 + b * 65536 + c * 256 + d := by
  rw [u32_or (a * 16777216) (b * 65536) (by omega) (by omega) (by omega) (by omega)]
  rw [nat_join 24 (a * 16777216).toNat (b * 65536).toNat (by omega) (by omega)]
  rw [u32_or _ (c * 256) (by omega) (by omega) (by omega) (by omega), Int.toNat_natCast]
  rw [nat_join 16 _ (c * 256).toNat (by omega) (by omega)]
  rw [u32_or _ d (by omega) (by omega) (by omega) (by omega), Int.toNat_natCast]
  rw [nat_join 8 _ d.toNat (by omega) (by omega)]
  omega

set_option maxHeartbeats 400000 in
theorem join_any (a b c d : Int) (w : World) (ha0 : 0 ≤ a) (ha1 : a ≤ 255) (hb0 : 0 ≤ b) (hb1 : b ≤ 255) (hc0 : 0 ≤ c) (hc1 : c ≤ 255) (hd0 : 0 ≤ d) (hd1 : d ≤ 255) :
    Calls Tryd.prog 49 #[arr4 a b c d] w fun e w' => e = .returned (.int .u32 (a * 16777216 + b * 65536 + c * 256 + d)) ∧ Below w.heap.size w w' := by
  go_enter Tryd.func49, Tryd.ntmps49
  go_wp2
  go_ret
  exact ⟨ret_u32 (or_join a b c d ha0 ha1 hb0 hb1 hc0 hc1 hd0 hd1), (Below.refl _ _).alloc (Nat.le_refl _) _⟩

/-- The sum over the length's four bytes and the payload. -/
def check (a b c d : Int) (zs : List Int) : Int := moreF (moreF 0 [a, b, c, d]) zs

set_option maxHeartbeats 400000 in
theorem checkOf_any (p q r s : Int) (a : Option Addr) (n cap : Nat) (zs : List Int) (w : World) (hp : 0 ≤ p ∧ p ≤ 255) (hq : 0 ≤ q ∧ q ≤ 255) (hr : 0 ≤ r ∧ r ≤ 255) (hs : 0 ≤ s ∧ s ≤ 255)
    (hn : zs.length = n) (hB : Has w a zs) (hz : Octets zs) (hT : Tab w) (hl : n ≤ 140737488355328) :
    Calls Tryd.prog 42 #[arr4 p q r s, .slice a n cap] w fun e w' => e = .returned (arr4 (check p q r s zs / 16777216) (check p q r s zs / 65536 % 256) (check p q r s zs / 256 % 256) (check p q r s zs % 256)) ∧ Below w.heap.size w w' := by
  have O4 : Octets [p, q, r, s] := fun
    | 0 => hp | 1 => hq | 2 => hr | 3 => hs | i + 4 => by simp
  have m1 := moreF_bd 0 [p, q, r, s] O4 (by decide) (by decide)
  have m2 := moreF_bd _ zs hz m1.1 m1.2
  obtain ⟨y, hy⟩ : ∃ y, check p q r s zs = y := ⟨_, rfl⟩
  have hy' : moreF (moreF 0 [p, q, r, s]) zs = y := hy
  rw [hy'] at m2
  obtain ⟨y0, y1⟩ := m2
  rw [hy]
  have HY : Hid (moreF (moreF 0 [p, q, r, s]) zs = y) := hy'
  clear hy hy'
  obtain ⟨x, hx⟩ : ∃ x, moreF 0 [p, q, r, s] = x := ⟨_, rfl⟩
  rw [hx] at m1 HY
  obtain ⟨x0, x1⟩ := m1
  have HX : Hid (moreF 0 [p, q, r, s] = x) := hx
  clear hx
  go_enter Tryd.func42, Tryd.ntmps42
  go_wp2_with fail
  have b2 : Below w.heap.size w ((w.alloc (.cells #[.int .u8 p, .int .u8 q, .int .u8 r, .int .u8 s] 89)).alloc (.cells #[.int .u8 0, .int .u8 0, .int .u8 0, .int .u8 0] 89)) := ((Below.refl _ w).alloc (Nat.le_refl _) _).alloc (by simp) _
  have hS : Has ((w.alloc (.cells #[.int .u8 p, .int .u8 q, .int .u8 r, .int .u8 s] 89)).alloc (.cells #[.int .u8 0, .int .u8 0, .int .u8 0, .int .u8 0] 89)) (some ⟨w.heap.size, 0, none⟩) [p, q, r, s] :=
    Has.of_block ((heap_alloc_old _ _ (by simp)).trans (heap_alloc_new w _))
  refine (crc_has _ 4 4 [p, q, r, s] _ rfl hS O4 (hT.below b2 hT.pos) (by decide)).mono ?_
  rintro e w1 ⟨rfl, hw1⟩
  rw [HX.out]
  subst hw1
  go_wp2_with fail
  refine (more_has x a n cap zs _ hn (hB.of_below b2) hz (hT.below b2 hT.pos) x0 x1 hl).mono ?_
  rintro e w1 ⟨rfl, hw1⟩
  rw [HY.out]
  subst hw1
  go_wp2_with fail
  refine (split_any y _ y0 y1).mono ?_
  rintro e w1 ⟨rfl, hb1⟩
  obtain ⟨hc, hf⟩ := bcell hb1
  have hz1 : w.heap.size + 1 < w1.heap.size := by have := hb1.size; simp at this; omega
  have HB : Hid (Below w.heap.size w w1) := b2.trans (hb1.mono (by simp; omega))
  clear hb1 b2 hS HX HY hB hT hz O4
  go_wp2
  exact bodyPost_ret (v := arr4 (y / 16777216) (y / 65536 % 256) (y / 256 % 256) (y % 256)) (by simp [results, Tryd.results42, go_sem, hc]) rfl ⟨rfl, ((((HB.out.setCell (by simp) _).setCell (by simp) _).setCell (by simp) _).setCell (by simp) _)⟩

theorem own_heap {w : World} {base : Nat} {e : TypeId} {size g n cap : Nat} {xs : List Value} (h : w.ownsRow base e size (.slice (some ⟨g, 0, none⟩) n cap) n xs) : base ≤ g ∧ ∃ cur, w.heap[g]? = some (.cells cur e (0, 0)) ∧ cur.size = cap * size ∧ cur.toList.take (n * size) = xs := by
  rcases h.2 with ⟨h, _⟩ | ⟨g', cap', cur, hv, hb, hg, _, _, hs, ht⟩
  · cases h
  · cases hv; exact ⟨hb, cur, hg, hs, ht⟩
theorem splice_all {α : Type} (L cs : List α) (h : L.length = cs.length) : splice L 0 cs = cs := by
  simp [splice]; omega

/-- What fresh leaves. -/
def Fresh (w : World) (zs : List Int) (w' : World) : Prop := w'.heap[w.heap.size]? = some (.cells (vals zs).toArray 5 (0, 0)) ∧ Below w.heap.size w w'

/-- The source of a copy lies there. -/
def CanCopy (g : Nat) (a : Option Addr) (zs : List Int) (w : World) : Prop := 0 < (vals zs).length → (some (⟨g, 0, none⟩ : Addr)) = some ⟨g, 0, none⟩ ∧ ∃ ad, a = some ad ∧ ∀ j v, (vals zs)[j]? = some v → w.cell? (ad.add j) = some v
theorem fresh_mid {a : Option Addr} {n : Nat} {zs : List Int} {w w1 : World} {xs : List Value} (hB : Has w a zs) (hown1 : w1.ownsRow w.heap.size 5 1 (.slice (some ⟨w.heap.size, 0, none⟩) n n) n xs) (hgrow1 : w.grownBy w1 none) :
    ∃ cur : Array Value, Hid (w1.heap[w.heap.size]? = some (.cells cur.toList.toArray 5 (0, 0))) ∧ Hid (cur.size = n) ∧ Below w.heap.size w w1 ∧
      CanCopy w.heap.size a zs w1 := by
  obtain ⟨_, cur, hg, hcs, _⟩ := own_heap hown1
  have b1 : Below w.heap.size w w1 := (Below.refl _ w).grown hgrow1 (Nat.le_refl _) (fun k h => by cases h)
  have hB1 := hB.of_below b1
  refine ⟨cur, (by simpa using hg : w1.heap[w.heap.size]? = some (.cells cur.toList.toArray 5 (0, 0))), (by simpa using hcs : cur.size = n), b1, fun h0 => ⟨rfl, ?_⟩⟩
  rcases hB1 with ⟨_, rfl⟩ | ⟨x, rfl, hx⟩
  · simp [vals] at h0
  · refine ⟨x, rfl, fun j v hv => ?_⟩
    obtain ⟨hj, rfl⟩ := vals_at zs j v hv
    exact hx j hj

set_option maxHeartbeats 400000 in
theorem fresh_any (a : Option Addr) (n cap : Nat) (zs : List Int) (w : World) (hn : zs.length = n) (hB : Has w a zs) (hl : n ≤ 140737488355328) :
    Calls Tryd.prog 50 #[.slice a n cap] w fun e w' => e = .returned (.slice (some ⟨w.heap.size, 0, none⟩) n n) ∧ Fresh w zs w' := by
  obtain ⟨i0, hi, hz0, hz1, hz2⟩ := info_parts Tryd.info5
  have hsz : (Tryd.prog.info? 5).map (·.size) = some 1 := by rw [hi]; simp [hz1]
  have HN : Hid (zs.length = n) := hn
  clear hn
  go_enter Tryd.func50, Tryd.ntmps50
  go_wp2_with (first
    | (at_make; refine wpList_make_full _ rfl (.tmp 5) (.tmp 5) 24 rfl w.heap.size 5 i0 (.int .u8 0) 1 Tryd.underlying24 hi hz0 hz1 .i64 .i64 n n n rfl rfl rfl rfl (by rw [hz2]; omega) (by unfold maxLen; omega) (Nat.le_refl _) ?_; intro w1 hown1 hgrow1; obtain ⟨cur, HG1, HC, b1, HP⟩ := fresh_mid hB hown1 hgrow1; clear hown1 hgrow1)
    | (refine wpList_copy_splice rfl (.tmp 7) (.tmp 8) 24 24 rfl 5 Tryd.underlying24 hsz (some ⟨w.heap.size, 0, none⟩) a n n n cap rfl rfl w.heap.size 0 cur.toList 5 HG1.out (vals zs) (by simp [vals_length, HN.out]) HP (by simp [vals_length, HN.out, HC.out]) (vals_one zs) w.heap.size w b1 (Nat.le_refl _) ?_; intro w2 HG hb2))
  go_ret
  exact ⟨rfl, by have := HG.out; rwa [splice_all _ _ (by simp [vals_length, HN.out, HC.out])] at this, hb2⟩
end Go.Proofs.YteeclghhoioapaaDoor
