/-
  The contract of sum.Frame.
-/
import Derived.Test.YteeclghhoioapaaDoorFour
namespace Go.Proofs.YteeclghhoioapaaDoor
open Go.RowKit
set_option linter.unusedVariables false

/-- The sum in a frame. -/
def sumOf (zs : List Int) : Int := check ((zs.length : Int) / 16777216) ((zs.length : Int) / 65536 % 256) ((zs.length : Int) / 256 % 256) ((zs.length : Int) % 256) zs
/-- A record's frame. -/
def frame (zs : List Int) : List Int := four zs.length ++ (four (sumOf zs) ++ zs)

theorem check_bd (p q r s : Int) (zs : List Int) (hz : Octets zs) (hp : 0 ≤ p ∧ p ≤ 255) (hq : 0 ≤ q ∧ q ≤ 255) (hr : 0 ≤ r ∧ r ≤ 255) (hs : 0 ≤ s ∧ s ≤ 255) : 0 ≤ check p q r s zs ∧ check p q r s zs < 4294967296 := by
  have O4 : Octets [p, q, r, s] := fun
    | 0 => hp | 1 => hq | 2 => hr | 3 => hs | i + 4 => by simp
  have m1 := moreF_bd 0 [p, q, r, s] O4 (by decide) (by decide)
  exact moreF_bd _ zs hz m1.1 m1.2
theorem sumOf_bd (zs : List Int) (hz : Octets zs) (hl : zs.length < 4294967296) : 0 ≤ sumOf zs ∧ sumOf zs < 4294967296 :=
  check_bd _ _ _ _ zs hz (by omega) (by omega) (by omega) (by omega)

set_option maxHeartbeats 400000 in
theorem frame_long (a : Option Addr) (n cap : Nat) (w : World) (hl : 131072 < n) (hm : n ≤ 140737488355328) :
    Calls Tryd.prog 29 #[.slice a n cap] w fun e w' => e = .returned (.tuple #[.slice none 0 0, .int .i64 3]) ∧ w' = w := by
  go_enter Tryd.func29, Tryd.ntmps29
  go_wp2
  go_ret2
  exact ⟨rfl, rfl⟩

theorem frame_made {w w1 w2 w3 : World} {n : Nat} {y : Int} (H2 : Hid (w2.heap[w1.heap.size]? = some (.cells (vals (four n)).toArray 89 (0, 0)))) (sz1 : w.heap.size ≤ w1.heap.size) (sz2 : w1.heap.size < w2.heap.size) (B2 : Hid (Below w.heap.size w w2))
    (hown : w3.ownsRow w.heap.size 5 1 (.slice (some ⟨(w2.alloc (.cells #[.int .u8 (y / 16777216), .int .u8 (y / 65536 % 256), .int .u8 (y / 256 % 256), .int .u8 (y % 256)] 89)).heap.size, 0, none⟩) 0 (8 + n)) 0 [])
    (hg : (w2.alloc (.cells #[.int .u8 (y / 16777216), .int .u8 (y / 65536 % 256), .int .u8 (y / 256 % 256), .int .u8 (y % 256)] 89)).grownBy w3 none) :
    Hid (w3.heap[w1.heap.size]? = some (.cells (vals (four n)).toArray 89 (0, 0))) ∧ Hid (w3.heap[w2.heap.size]? = some (.cells (vals (four y)).toArray 89 (0, 0))) ∧ Hid (Below w.heap.size w w3) ∧ Hid (w3.ownsRow w.heap.size 5 1 (.slice (some ⟨w2.heap.size + 1, 0, none⟩) 0 (8 + n)) 0 []) := by
  refine ⟨?_, ?_, ?_, ?_⟩
  · exact ((hg.block _ (by simp; omega) (by simp)).trans (heap_alloc_old _ _ sz2)).trans H2.out
  · exact (hg.block _ (by simp) (by simp)).trans (heap_alloc_new w2 _)
  · exact (B2.out.alloc (by omega) _).grown hg (by simp; omega) (fun k h => by cases h)
  · have : (w2.alloc (.cells #[.int .u8 (y / 16777216), .int .u8 (y / 65536 % 256), .int .u8 (y / 256 % 256), .int .u8 (y % 256)] 89)).heap.size = w2.heap.size + 1 := by simp
    rw [this] at hown; exact hown
theorem frame_four1 {w w1 w2 w3 w4 : World} {n : Nat} {y : Int} {xs : List Value} (C3 : Hid (w3.heap[w2.heap.size]? = some (.cells (vals (four y)).toArray 89 (0, 0)))) (sz1 : w.heap.size ≤ w1.heap.size) (sz2 : w1.heap.size < w2.heap.size) (B3 : Hid (Below w.heap.size w w3))
    (hown : w4.ownsRow w.heap.size 5 1 (.slice (some ⟨w2.heap.size + 1, 0, none⟩) (0 + 4) (8 + n)) (0 + 4) ([] ++ xs)) (hg : w3.grownBy w4 (some (w2.heap.size + 1))) :
    Hid (w4.heap[w2.heap.size]? = some (.cells (vals (four y)).toArray 89 (0, 0))) ∧ Hid (Below w.heap.size w w4) ∧ Hid (w4.ownsRow w.heap.size 5 1 (.slice (some ⟨w2.heap.size + 1, 0, none⟩) 4 (8 + n)) 4 xs) :=
  ⟨(hg.block _ (Array.getElem?_eq_some_iff.1 C3.out).1 (by simp)).trans C3.out, B3.out.grown hg B3.out.size (fun k h => by cases h; omega), hown⟩
theorem frame_four2 {w w1 w2 w4 w5 : World} {n : Nat} {x : Addr} {zs : List Int} {xs : List Value} (HB : Hid (Has w (some x) zs)) (sz1 : w.heap.size ≤ w1.heap.size) (sz2 : w1.heap.size < w2.heap.size) (B4 : Hid (Below w.heap.size w w4))
    (hown : w5.ownsRow w.heap.size 5 1 (.slice (some ⟨w2.heap.size + 1, 0, none⟩) (4 + 4) (8 + n)) (4 + 4) xs) (hg : w4.grownBy w5 (some (w2.heap.size + 1))) :
    Hid (∀ j u, (vals zs)[j]? = some u → w5.cell? (x.add j) = some u) ∧ Hid (Below w.heap.size w w5) ∧ Hid (w5.ownsRow w.heap.size 5 1 (.slice (some ⟨w2.heap.size + 1, 0, none⟩) 8 (8 + n)) 8 xs) := by
  have b5 : Below w.heap.size w w5 := B4.out.grown hg B4.out.size (fun k h => by cases h; omega)
  refine ⟨fun j u h => ?_, b5, hown⟩
  obtain ⟨hj, rfl⟩ := vals_at zs j u h
  rcases HB.out.of_below b5 with ⟨h, _⟩ | ⟨x', hx, hB⟩
  · cases h
  · cases hx; exact hB j hj
theorem frame_end {w w1 w2 w5 w6 : World} {v : Value} {n : Nat} {xs : List Value} (sz1 : w.heap.size ≤ w1.heap.size) (sz2 : w1.heap.size < w2.heap.size) (B5 : Hid (Below w.heap.size w w5)) (hown : Hid (w5.ownsRow w.heap.size 5 1 v n xs)) (hg : w5.grownBy w6 (some (w2.heap.size + 1))) : Below w.heap.size w w6 :=
  B5.out.grown hg B5.out.size (fun k h => by cases h; omega)

set_option maxRecDepth 4000 in
set_option maxHeartbeats 800000 in
theorem frame_some (x : Addr) (n cap : Nat) (zs : List Int) (w : World) (hn : zs.length = n) (hB : ∀ j, j < zs.length → w.cell? (x.add j) = some (.int .u8 (zs.getD j 0))) (hz : Octets zs) (hT : Tab w) (hl : n ≤ 131072) :
    Calls Tryd.prog 29 #[.slice (some x) n cap] w fun e w' => ∃ g, e = .returned (.tuple #[.slice (some ⟨g, 0, none⟩) (8 + n) (8 + n), .int .i64 0]) ∧ w'.ownsRow w.heap.size 5 1 (.slice (some ⟨g, 0, none⟩) (8 + n) (8 + n)) (8 + n) (vals (frame zs)) ∧ Below w.heap.size w w' := by
  obtain ⟨i0, hi, hz0, hz1, hz2⟩ := info_parts Tryd.info5
  have HN : Hid (zs.length = n) := hn
  have HB : Hid (Has w (some x) zs) := .inr ⟨x, rfl, hB⟩
  obtain ⟨y, hy⟩ : ∃ y, sumOf zs = y := ⟨_, rfl⟩
  have HY : Hid (check ((n : Int) / 16777216) ((n : Int) / 65536 % 256) ((n : Int) / 256 % 256) ((n : Int) % 256) zs = y) := by
    subst hn; exact hy
  have HF : Hid (vals (frame zs) = vals (four n) ++ (vals (four y) ++ vals zs)) := by
    show vals (frame zs) = _
    unfold frame; rw [vals_append, vals_append, hn, hy]
  have yb := sumOf_bd zs hz (by omega)
  rw [hy] at yb
  obtain ⟨y0, y1⟩ := yb
  clear hB hn hy
  go_enter Tryd.func29, Tryd.ntmps29
  go_wp2_with fail
  refine (split_any n _ (by omega) (by omega)).mono ?_
  rintro e w1 ⟨rfl, hb1⟩
  go_wp2_with fail
  have b2 : Below w.heap.size w (w1.alloc (.cells #[.int .u8 ((n : Int) / 16777216), .int .u8 ((n : Int) / 65536 % 256), .int .u8 ((n : Int) / 256 % 256), .int .u8 ((n : Int) % 256)] 89)) := hb1.alloc hb1.size _
  have heap1 : Hid ((w1.alloc (.cells #[.int .u8 ((n : Int) / 16777216), .int .u8 ((n : Int) / 65536 % 256), .int .u8 ((n : Int) / 256 % 256), .int .u8 ((n : Int) % 256)] 89)).heap[w1.heap.size]? = some (.cells (vals (four n)).toArray 89 (0, 0))) := heap_alloc_new w1 _
  have sz1 : w.heap.size ≤ w1.heap.size := hb1.size
  refine (checkOf_any _ _ _ _ (some x) n cap zs _ (by omega) (by omega) (by omega) (by omega) HN.out (HB.out.of_below b2) hz (hT.below b2 hT.pos) (by omega)).mono ?_
  rintro e w2 ⟨rfl, hb2⟩
  rw [HY.out]
  have H2 : Hid (w2.heap[w1.heap.size]? = some (.cells (vals (four n)).toArray 89 (0, 0))) := (hb2.block _ (by simp)).trans heap1.out
  have sz2 : w1.heap.size < w2.heap.size := by have := hb2.size; simp at this; omega
  have B2 : Hid (Below w.heap.size w w2) := b2.trans (hb2.mono (by simp; omega))
  clear hb2 b2 heap1 hb1
  go_wp2_with (first
    | (at_make; refine wpList_make_own _ rfl (.const (.int .i64 0)) (.tmp 19) 24 rfl w.heap.size 5 i0 (.int .u8 0) 1 Tryd.underlying24 hi hz0 hz1 .i64 .i64 (8 + (n : Int)) (8 + n) rfl rfl (by omega) (by rw [hz2]; omega) (by unfold maxLen; omega) (by simp; omega) ?_; intro w3 hown3 hgrow3; obtain ⟨H3, C3, B3, hown3'⟩ := frame_made H2 sz1 sz2 B2 hown3 hgrow3; clear hown3 hgrow3 H2)
    | (at_builtin; refine wpList_append_fits _ rfl (.tmp 21) (.tmp 22) 24 rfl w.heap.size 5 i0 1 Tryd.underlying24 hi hz1 (w2.heap.size + 1) 0 (8 + n) [] rfl hown3'.out ⟨w1.heap.size, 0, none⟩ 4 4 (vals (four n)) rfl rfl (World.news_of_block H3.out) (vals_one _) (by omega) ?_; intro w4 hown4 hgrow4; obtain ⟨C4, B4, hown4'⟩ := frame_four1 C3 sz1 sz2 B3 hown4 hgrow4; clear hown4 hgrow4 H3 C3 B3 hown3')
    | (at_builtin; refine wpList_append_fits _ rfl (.tmp 24) (.tmp 25) 24 rfl w.heap.size 5 i0 1 Tryd.underlying24 hi hz1 (w2.heap.size + 1) 4 (8 + n) (vals (four n)) rfl hown4'.out ⟨w2.heap.size, 0, none⟩ 4 4 (vals (four y)) rfl rfl (World.news_of_block C4.out) (vals_one _) (by omega) ?_; intro w5 hown5 hgrow5; obtain ⟨N5, B5, hown5'⟩ := frame_four2 HB sz1 sz2 B4 hown5 hgrow5; clear hown5 hgrow5 C4 B4 hown4')
    | (at_builtin; refine wpList_append_fits _ rfl (.tmp 27) (.tmp 28) 24 rfl w.heap.size 5 i0 1 Tryd.underlying24 hi hz1 (w2.heap.size + 1) 8 (8 + n) (vals (four n) ++ vals (four y)) rfl hown5'.out x n cap (vals zs) rfl (by rw [vals_length, HN.out]; omega) N5.out (vals_one _) (by omega) ?_; intro w6 hown6 hgrow6; have B6 : Hid (Below w.heap.size w w6) := frame_end sz1 sz2 B5 hown5' hgrow6))
  go_ret2
  exact ⟨_, rfl, by rw [HF.out, ← List.append_assoc]; exact hown6, B6.out⟩
set_option maxRecDepth 4000 in
set_option maxHeartbeats 800000 in
theorem frame_none (w : World) (hT : Tab w) :
    Calls Tryd.prog 29 #[.slice none 0 0] w fun e w' => ∃ g, e = .returned (.tuple #[.slice (some ⟨g, 0, none⟩) 8 8, .int .i64 0]) ∧ w'.ownsRow w.heap.size 5 1 (.slice (some ⟨g, 0, none⟩) 8 8) 8 (vals (frame [])) ∧ Below w.heap.size w w' := by
  obtain ⟨i0, hi, hz0, hz1, hz2⟩ := info_parts Tryd.info5
  have hz := Octets.nil
  obtain ⟨y, hy⟩ : ∃ y, sumOf [] = y := ⟨_, rfl⟩
  have HY : Hid (check 0 0 0 0 [] = y) := hy
  have HF : Hid (vals (frame []) = vals (four 0) ++ (vals (four y) ++ vals [])) := by
    show vals (frame []) = _
    unfold frame; rw [vals_append, vals_append, hy]; rfl
  have yb := sumOf_bd [] hz (by decide)
  rw [hy] at yb
  obtain ⟨y0, y1⟩ := yb
  clear hy
  go_enter Tryd.func29, Tryd.ntmps29
  go_wp2_with fail
  refine (split_any 0 _ (by omega) (by omega)).mono ?_
  rintro e w1 ⟨rfl, hb1⟩
  go_wp2_with fail
  have b2 : Below w.heap.size w (w1.alloc (.cells #[.int .u8 0, .int .u8 0, .int .u8 0, .int .u8 0] 89)) := hb1.alloc hb1.size _
  have heap1 : Hid ((w1.alloc (.cells #[.int .u8 0, .int .u8 0, .int .u8 0, .int .u8 0] 89)).heap[w1.heap.size]? = some (.cells (vals (four (0 : Nat))).toArray 89 (0, 0))) := heap_alloc_new w1 _
  have sz1 : w.heap.size ≤ w1.heap.size := hb1.size
  refine (checkOf_any 0 0 0 0 none 0 0 [] _ (by omega) (by omega) (by omega) (by omega) rfl (.inl ⟨rfl, rfl⟩) hz (hT.below b2 hT.pos) (by omega)).mono ?_
  rintro e w2 ⟨rfl, hb2⟩
  rw [HY.out]
  have H2 : Hid (w2.heap[w1.heap.size]? = some (.cells (vals (four (0 : Nat))).toArray 89 (0, 0))) := (hb2.block _ (by simp)).trans heap1.out
  have sz2 : w1.heap.size < w2.heap.size := by have := hb2.size; simp at this; omega
  have B2 : Hid (Below w.heap.size w w2) := b2.trans (hb2.mono (by simp; omega))
  clear hb2 b2 heap1 hb1
  go_wp2_with (first
    | (at_make; refine wpList_make_own _ rfl (.const (.int .i64 0)) (.tmp 19) 24 rfl w.heap.size 5 i0 (.int .u8 0) 1 Tryd.underlying24 hi hz0 hz1 .i64 .i64 8 (8 + 0) rfl rfl (by omega) (by rw [hz2]; omega) (by unfold maxLen; omega) (by simp; omega) ?_; intro w3 hown3 hgrow3; obtain ⟨H3, C3, B3, hown3'⟩ := frame_made H2 sz1 sz2 B2 hown3 hgrow3; clear hown3 hgrow3 H2)
    | (at_builtin; refine wpList_append_fits _ rfl (.tmp 21) (.tmp 22) 24 rfl w.heap.size 5 i0 1 Tryd.underlying24 hi hz1 (w2.heap.size + 1) 0 (8 + 0) [] rfl hown3'.out ⟨w1.heap.size, 0, none⟩ 4 4 (vals (four (0 : Nat))) rfl rfl (World.news_of_block H3.out) (vals_one _) (by omega) ?_; intro w4 hown4 hgrow4; obtain ⟨C4, B4, hown4'⟩ := frame_four1 C3 sz1 sz2 B3 hown4 hgrow4; clear hown4 hgrow4 H3 C3 B3 hown3')
    | (at_builtin; refine wpList_append_fits _ rfl (.tmp 24) (.tmp 25) 24 rfl w.heap.size 5 i0 1 Tryd.underlying24 hi hz1 (w2.heap.size + 1) 4 (8 + 0) (vals (four (0 : Nat))) rfl hown4'.out ⟨w2.heap.size, 0, none⟩ 4 4 (vals (four y)) rfl rfl (World.news_of_block C4.out) (vals_one _) (by omega) ?_; intro w5 hown5 hgrow5; have B5 : Hid (Below w.heap.size w w5) := frame_end sz1 sz2 B4 hown4' hgrow5; clear hgrow5 C4 B4 hown4')
    | (at_builtin; refine wpList_append_own_none rfl (.tmp 27) (.tmp 28) 24 rfl w.heap.size 5 i0 1 Tryd.underlying24 hi (.slice (some ⟨w2.heap.size + 1, 0, none⟩) 8 8) 8 (vals (four (0 : Nat)) ++ vals (four y)) rfl hown5 rfl ?_))
  go_ret2
  exact ⟨_, rfl, by rw [HF.out]; simpa [vals] using hown5, B5.out⟩

/-- What Frame leaves where the payload is not too long. -/
theorem frame_any (a : Option Addr) (n cap : Nat) (zs : List Int) (w : World) (hn : zs.length = n) (hB : Has w a zs) (hc : a = none → cap = 0) (hz : Octets zs) (hT : Tab w) (hl : n ≤ 131072) :
    Calls Tryd.prog 29 #[.slice a n cap] w fun e w' => ∃ g, e = .returned (.tuple #[.slice (some ⟨g, 0, none⟩) (8 + n) (8 + n), .int .i64 0]) ∧ w'.ownsRow w.heap.size 5 1 (.slice (some ⟨g, 0, none⟩) (8 + n) (8 + n)) (8 + n) (vals (frame zs)) ∧ Below w.heap.size w w' := by
  rcases hB with ⟨rfl, rfl⟩ | ⟨x, rfl, hB⟩
  · obtain rfl := hc rfl
    subst hn
    exact frame_none w hT
  · exact frame_some x n cap zs w hn hB hz hT hl
end Go.Proofs.YteeclghhoioapaaDoor
