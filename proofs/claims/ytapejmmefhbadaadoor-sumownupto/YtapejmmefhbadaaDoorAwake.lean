/-
  The contract of the statements' own helper awake.
-/
import Derived.Test.YtapejmmefhbadaaDoorPlain
import Derived.Lib.SlBytesConst
namespace Go.Proofs.YtapejmmefhbadaaDoor
open Go.RowKit
set_option linter.unusedVariables false

theorem ret_i64 {a b : Int} (h : a = b) : Ending.returned (.int .i64 a) = .returned (.int .i64 b) := by rw [h]
set_option maxHeartbeats 400000 in
theorem own_has {w : World} {base g n cap : Nat} {zs : List Int} (h : w.ownsRow base 5 1 (.slice (some ⟨g, 0, none⟩) n cap) n (vals zs)) : Has w (some ⟨g, 0, none⟩) zs :=
  .inr ⟨_, rfl, fun j hj => h.cells rfl j _ (vals_get zs j hj)⟩

theorem awake_a {w1 w2 : World} {g2 cap2 : Nat} {F : List Int} (hown2 : w2.ownsRow w1.heap.size 5 1 (.slice (some ⟨g2, 0, none⟩) (0 + 9) cap2) (0 + 9) (vals [] ++ vals F)) (hg : (w1.alloc (.cells #[] 5)).grownBy w2 (Value.slice (some ⟨w1.heap.size, 0, none⟩) 0 0).ownBlock) :
    Hid (w2.ownsRow w1.heap.size 5 1 (.slice (some ⟨g2, 0, none⟩) 9 cap2) 9 (vals F)) ∧ Hid (Below w1.heap.size w1 w2) :=
  ⟨hown2, ((Below.refl _ w1).alloc (Nat.le_refl _) _).grown hg (by simp) (fun k h => by simp [Value.ownBlock] at h; omega)⟩
theorem awake_b {w1 w2 w3 : World} {g2 cap2 g3 cap3 : Nat} {F : List Int} {o : Obj} (HO2 : Hid (w2.ownsRow w1.heap.size 5 1 (.slice (some ⟨g2, 0, none⟩) 9 cap2) 9 (vals F))) (B2 : Hid (Below w1.heap.size w1 w2))
    (hown3 : w3.ownsRow w1.heap.size 5 1 (.slice (some ⟨g3, 0, none⟩) (9 + 1) cap3) (9 + 1) (vals F ++ vals [7])) (hg : (w2.alloc o).grownBy w3 (Value.slice (some ⟨g2, 0, none⟩) 9 cap2).ownBlock) :
    Hid (w3.ownsRow w1.heap.size 5 1 (.slice (some ⟨g3, 0, none⟩) 10 cap3) 10 (vals (F ++ [7]))) ∧ Hid (Below w1.heap.size w1 w3) ∧ 10 ≤ cap3 ∧ cap3 ≤ maxLen := by
  rw [← vals_append] at hown3
  have := own_cap hown3
  exact ⟨hown3, (B2.out.alloc B2.out.size _).grown hg (Nat.le_trans B2.out.size (by simp)) (fun k h => (HO2.out.lt k h).1), this.1, this.2⟩

theorem awake_c {e : Ending} {w3 w4 : World} {F : List Int} (HF : Hid (frame [97] = F)) (hN : Nexts w3 (F ++ [7]) e w4) :
    ∃ g4, e = .returned (.tuple #[.slice (some ⟨g4, 0, none⟩) 1 1, .int .i64 9, .int .i64 0]) ∧ Hid (w4.heap[g4]? = some (.cells (vals [97]).toArray 5 (0, 0))) ∧ Below w3.heap.size w3 w4 := by
  have h := isRec_frame [97] [7] (by decide)
  rw [HF.out] at h
  obtain ⟨hb, hN⟩ := hN
  rcases hN with ⟨no, _⟩ | ⟨N, g, hr, rfl, _, hh⟩
  · exact absurd h.1 (no _)
  · have hN := hr.same h.1
    subst hN
    rw [h.2] at hh
    exact ⟨g, rfl, hh, hb⟩
theorem octets_nine : Octets [49, 50, 51, 52, 53, 54, 55, 56, 57] := fun
  | 0 | 1 | 2 | 3 | 4 | 5 | 6 | 7 | 8 => by decide
  | i + 9 => by simp
theorem crc_zero : moreF 0 [] = 0 := moreF_nil 0 (by decide) (by decide)
theorem crc_nine : moreF 0 [49, 50, 51, 52, 53, 54, 55, 56, 57] = 3808858755 := by decide +kernel

set_option maxHeartbeats 1000000 in
theorem awake_any (w : World) (hT : Tab w) :
    Calls Tryd.prog 4 #[] w fun e w' => e = .returned (.bool true) ∧ Below w.heap.size w w' := by
  have kc := fun (w : World) (C : Array Value) (n c : Nat) => Lib.run_convert_bytes_const (P := Tryd.prog) w 24 5 C n c Tryd.underlying24 Tryd.underlying5
  obtain ⟨i0, hi, hz0, hz1, hz2⟩ := info_parts Tryd.info5
  have O1 : Octets [97] := fun | 0 => by simp | i + 1 => by simp
  have O9 := octets_nine
  have O7 : Octets [7] := fun | 0 => by simp | i + 1 => by simp
  obtain ⟨F, hF⟩ : ∃ F, frame [97] = F := ⟨_, rfl⟩
  have HF : Hid (frame [97] = F) := hF
  have OF : Octets F := by rw [← hF]; exact frame_octets _ O1 (by decide)
  have LF : Hid (F.length = 9) := by rw [← hF]; exact frame_length [97]
  clear hF
  go_enter Tryd.func4, Tryd.ntmps4
  go_wp2_with fail
  have b1 : Below w.heap.size w (w.alloc (.cells #[.int .u8 97] 5 (1, 2))) := (Below.refl _ w).alloc (Nat.le_refl _) _
  refine (frame_any _ 1 1 [97] _ rfl (Has.of_block (heap_alloc_new w _)) (fun h => by cases h) O1 (hT.below b1 hT.pos) (by decide)).mono ?_
  rintro e w1 ⟨g, rfl, hown1, hb1⟩
  rw [HF.out] at hown1
  have B1 : Below w.heap.size w w1 := b1.trans (hb1.mono (by simp))
  have hg1 : (w.alloc (.cells #[.int .u8 97] 5 (1, 2))).heap.size ≤ g ∧ g < w1.heap.size := hown1.lt g rfl
  have HO1 : Hid (w1.ownsRow (w.heap.size + 1) 5 1 (.slice (some ⟨g, 0, none⟩) 9 9) 9 (vals F)) := by
    rw [World.size_alloc] at hown1; exact hown1
  clear hown1 hb1 b1
  go_wp2_with (first
    | (at_builtin; refine wpList_append_lies _ rfl (.tmp 16) (.tmp 17) 24 rfl w1.heap.size 5 i0 (.int .u8 0) 1 1 Tryd.underlying24 hi hz0 hz1 hz2 rfl (by decide) (.slice (some ⟨w1.heap.size, 0, none⟩) 0 0) 0 (vals []) rfl (World.ownsRow_lit w1 #[] 0 (Nat.le_refl _) (by decide) rfl) ⟨g, 0, none⟩ 9 9 (vals F) rfl (by rw [vals_length, LF.out]) ((HO1.out.alloc _).cells rfl) (vals_one _) (by decide) (by decide) (by decide) (by simp) _ rfl ?_; intro g2 cap2 w2 hown2 hgrow2 hat2 hlt2; obtain ⟨HO2, B2⟩ := awake_a hown2 hgrow2; clear hown2 hgrow2 hat2 hlt2)
    | (at_builtin; refine wpList_append_lies _ rfl (.tmp 18) (.tmp 19) 24 rfl w1.heap.size 5 i0 (.int .u8 0) 1 1 Tryd.underlying24 hi hz0 hz1 hz2 rfl (by decide) (.slice (some ⟨g2, 0, none⟩) 9 cap2) 9 (vals F) rfl (HO2.out.alloc _) ⟨w2.heap.size, 0, none⟩ 1 1 (vals [7]) rfl rfl (World.news_of_block (heap_alloc_new w2 _)) (vals_one _) (by decide) (by decide) (by decide) (Nat.le_trans B2.out.size (by simp)) _ rfl ?_; intro g3 cap3 w3 hown3 hgrow3 hat3 hlt3; obtain ⟨HO3, B3, hc3, hm3⟩ := awake_b HO2 B2 hown3 hgrow3; clear hown3 hgrow3 hat3 hlt3)
    | fail)
  refine (next_any (some ⟨g3, 0, none⟩) 10 cap3 (F ++ [7]) _ (by simp [LF.out]) (own_has HO3.out) hc3 hm3 (OF.append O7) ((hT.below B1 hT.pos).below B3.out (hT.below B1 hT.pos).pos)).mono ?_
  intro e w4 hN
  obtain ⟨g4, he4, HG4, B4⟩ := awake_c HF hN
  subst he4
  have B14 : Hid (Below w1.heap.size w1 w4) := B3.out.trans (B4.mono B3.out.size)
  clear hN B4 HO3 B3 hc3 hm3 HO2 B2 HO1
  go_wp2_with fail
  refine (next_short _ 4 9 _ (by decide)).mono ?_
  rintro e w5 ⟨rfl, hw5⟩
  subst hw5
  have hT4 : Tab w5 := (hT.below B1 hT.pos).below B14.out (hT.below B1 hT.pos).pos
  have hstr : ∀ o, (convert 24 9 (.slice (some ⟨g4, 0, none⟩) 1 1)).run Tryd.prog (w5.alloc o) = .ok (.string ⟨#[97]⟩) (w5.alloc o) := fun o =>
    str_of _ (some ⟨g4, 0, none⟩) 1 1 [97] rfl (Has.of_block ((heap_alloc_old w5 o (lt_heap HG4.out)).trans HG4.out))
  have HT5 : Hid (Tab w5) := hT4
  clear hT4 hT
  go_wp2_with fail
  have b6 : Below w5.heap.size w5 (w5.alloc (.cells (vals [49, 50, 51, 52, 53, 54, 55, 56, 57]).toArray 5 (9, 10))) := (Below.refl _ w5).alloc (Nat.le_refl _) _
  refine (crc_has (some ⟨w5.heap.size, 0, none⟩) 9 9 [49, 50, 51, 52, 53, 54, 55, 56, 57] _ rfl (Has.of_block (heap_alloc_new w5 _)) O9 (HT5.out.below b6 HT5.out.pos) (by decide)).mono ?_
  rintro e w7 ⟨rfl, hw7⟩
  rw [crc_nine]
  subst hw7
  go_wp2_with fail
  refine (crc_has none 0 0 [] _ rfl (.inl ⟨rfl, rfl⟩) Octets.nil (HT5.out.below b6 HT5.out.pos) (by decide)).mono ?_
  rintro e w7 ⟨rfl, hw7⟩
  rw [crc_zero]
  subst hw7
  go_wp2
  go_ret
  exact ⟨rfl, B1.trans ((B14.out.trans (b6.mono B14.out.size)).mono B1.size)⟩

end Go.Proofs.YtapejmmefhbadaaDoor
