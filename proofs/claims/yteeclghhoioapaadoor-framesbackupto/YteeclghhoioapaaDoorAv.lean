/-
  The statements' own awake.
-/
import Derived.Test.YteeclghhoioapaaDoorAk
import Derived.Test.YteeclghhoioapaaDoorMt
namespace Go.Proofs.YteeclghhoioapaaDoor
open Go.RowKit
set_option linter.unusedVariables false
set_option linter.unusedSimpArgs false
set_option maxRecDepth 100000
def pingM : Ms := { kind := 5, non := 258 }
def sixM : Ms := { kind := 6 }
theorem ping_ok : okM pingM = true := by decide
theorem ping_F : frmB pingM = frame [5, 0, 0, 0, 0, 0, 0, 1, 2] := rfl
theorem ping_len : (frmB pingM).length = 17 := rfl
theorem ping_at : (frmB pingM).getD 8 0 = 5 ∧ (frmB pingM).getD 15 0 = 1 ∧ (frmB pingM).getD 16 0 = 2 := ⟨rfl, rfl, rfl⟩
theorem ping_dec : decM (frmB pingM) = (pingM, 17, 0) := by
  have := dec_frame pingM [] ping_ok
  rw [List.append_nil] at this
  exact this
theorem dec_a : decM [0, 2, 0, 1] = (zeroM, 0, 190) := by
  unfold decM
  rw [if_neg (by decide), if_pos (by decide)]
theorem dec_b : decM [0, 0] = (zeroM, 0, 10) := by
  unfold decM
  rw [if_pos (by decide)]
theorem frm_octets (m : Ms) : Octets (frmB m) := by
  unfold frmB
  split
  · rename_i h; exact frame_octets _ (payM_octets m) (by have := (payM_len m h).2; omega)
  · exact Octets.nil
theorem frm_small (m : Ms) : (frmB m).length ≤ 65700 := by
  unfold frmB
  split
  · rename_i h; rw [frame_length]; have := (payM_len m h).2; omega
  · simp
theorem Rw.bs {w : World} {base : Nat} {v : Value} {zs : List Int} (h : Rw w base v zs) (ho : Octets zs) (hl : zs.length ≤ 140737488355328) : ∃ a cap, v = .slice a zs.length cap ∧ Bs w a zs.length cap zs ∧ ∀ x, a = some x → base ≤ x.block := by
  obtain ⟨a, cap, hv, h1, h2, h3, h4, h5⟩ := h.has
  exact ⟨a, cap, hv, ⟨rfl, h1, ho, h4, h2, h3, hl⟩, h5⟩
theorem Bs.at_ {w : World} {a : Option Addr} {n cap : Nat} {zs : List Int} (h : Bs w a n cap zs) (hn : 0 < n) : ∃ x, a = some x ∧ ∀ j, j < n → w.cell? (x.add j) = some (.int .u8 (zs.getD j 0)) := by
  have hl := h.len
  rcases h.has with ⟨_, e⟩ | ⟨x, hx, hh⟩
  · subst e; simp at hl; omega
  · exact ⟨x, hx, fun j hj => hh j (by omega)⟩
theorem Bs.made (w : World) (zs : List Int) (B : Nat) (hB : B = w.heap.size) (ho : Octets zs) (hs : zs.length ≤ 1000) : Bs (w.alloc (.cells (vals zs).toArray 5)) (some ⟨B, 0, none⟩) zs.length zs.length zs := by
  subst hB
  exact ⟨rfl, .inr ⟨_, rfl, fun j hj => World.news_of_block (heap_alloc_new w _) j _ (vals_get zs j hj)⟩, ho, (fun h => by cases h), Nat.le_refl _, by unfold maxLen; omega, by omega⟩
/-- A row that is there lies at a plain place. -/
theorem Bs.plain {w : World} {a : Option Addr} {n cap : Nat} {zs : List Int} (h : Bs w a n cap zs) (hn : 0 < n) : ∃ b off, a = some ⟨b, off, none⟩ ∧ b < w.heap.size ∧ ∀ j, j < n → w.cell? ⟨b, off + j, none⟩ = some (.int .u8 (zs.getD j 0)) := by
  obtain ⟨x, hx, hc⟩ := h.at_ hn
  obtain ⟨b, off, spot⟩ := x
  have hs : spot = none := by
    have := World.cell?_spot (hc 0 hn)
    simpa [Addr.add] using this
  subst hs
  have hc' : ∀ j, j < n → w.cell? ⟨b, off + j, none⟩ = some (.int .u8 (zs.getD j 0)) := fun j hj => by
    have := hc j hj
    rwa [Go.WideShapes.add_plain] at this
  exact ⟨b, off, hx, World.block_lt_of_cell? w _ (hc' 0 hn), hc'⟩
theorem aw_cells {w : World} {a : Option Addr} {cap : Nat} {F : List Int} (h : Bs w a 17 cap F) (hF : F.getD 8 0 = 5 ∧ F.getD 15 0 = 1 ∧ F.getD 16 0 = 2) : ∃ b off, a = some ⟨b, off, none⟩ ∧
    (∀ o, (w.alloc o).cell? ⟨b, off + 8, none⟩ = some (.int .u8 5)) ∧ (∀ o, (w.alloc o).cell? ⟨b, off + 15, none⟩ = some (.int .u8 1)) ∧ ∀ o, (w.alloc o).cell? ⟨b, off + 16, none⟩ = some (.int .u8 2) := by
  obtain ⟨b, off, ha, -, hc⟩ := h.plain (by decide)
  have c8 := hc 8 (by decide); have c15 := hc 15 (by decide); have c16 := hc 16 (by decide)
  rw [hF.1] at c8; rw [hF.2.1] at c15; rw [hF.2.2] at c16
  have hb : ∀ o, Below w.heap.size w (w.alloc o) := fun o => (Below.refl _ _).alloc (Nat.le_refl _) o
  exact ⟨b, off, ha, fun o => cell_of_below (hb o) c8, fun o => cell_of_below (hb o) c15, fun o => cell_of_below (hb o) c16⟩
theorem aw_mcs {w : World} {B : Nat} {t : TypeId} {kind ver frm non err : Int} {name text : ByteArray} (h : w.heap[B]? = some (.cells (mcs { kind := kind, name := name, ver := ver, frm := frm, non := non, err := err, text := text }).toArray t (0, 0))) :
    (∀ o, (w.alloc o).cell? ⟨B, 0, none⟩ = some (.int .i64 kind)) ∧ (∀ o, (w.alloc o).cell? ⟨B, 1, none⟩ = some (.string name)) ∧ (∀ o, (w.alloc o).cell? ⟨B, 2, none⟩ = some (.int .i64 ver)) ∧ (∀ o, (w.alloc o).cell? ⟨B, 3, none⟩ = some (.int .i64 frm)) ∧ (∀ o, (w.alloc o).cell? ⟨B, 4, none⟩ = some (.int .i64 non)) ∧ (∀ o, (w.alloc o).cell? ⟨B, 5, none⟩ = some (.int .i64 err)) ∧ ∀ o, (w.alloc o).cell? ⟨B, 6, none⟩ = some (.string text) := by
  obtain ⟨c0, c1, c2, c3, c4, c5, c6, -⟩ := cs7 h
  have hb : ∀ o, Below w.heap.size w (w.alloc o) := fun o => (Below.refl _ _).alloc (Nat.le_refl _) o
  exact ⟨fun o => cell_of_below (hb o) c0, fun o => cell_of_below (hb o) c1, fun o => cell_of_below (hb o) c2, fun o => cell_of_below (hb o) c3, fun o => cell_of_below (hb o) c4, fun o => cell_of_below (hb o) c5, fun o => cell_of_below (hb o) c6⟩
set_option maxHeartbeats 4000000 in
theorem awake_any (w : World) (hT : Tab w) : Calls Tryd.prog 22 #[] w fun e w' => e = .returned (.bool true) ∧ Below w.heap.size w w' := by
  have HE1 := hideL (fun w h => encode_any pingM w h (by unfold Sm Smn pingM; simp))
  have HE2 := hideL (fun w h => encode_any sixM w h (by unfold Sm Smn sixM; simp))
  have e1 : frmE pingM = 0 := by decide
  have e2 : frmE sixM = 2 := by decide
  have e3 : frmB sixM = [] := rfl
  rw [e1] at HE1
  rw [e2, e3] at HE2
  have HT := hideL hT
  have HF := hideL (And.intro ping_len (And.intro (frm_octets pingM) (And.intro ping_dec ping_at)))
  obtain ⟨F, hF⟩ : ∃ F, frmB pingM = F := ⟨_, rfl⟩
  rw [hF] at HE1 HF
  clear hT e1 e2 e3 hF
  simp only [mv, pingM, sixM] at HE1 HE2
  go_enter Tryd.func22, Tryd.ntmps22
  go_wp2_with (first
    | (go_at_call 9; have hq := HE1; clear hq; refine (HE1.out _ HT.out).mono ?_; rintro e w1 ⟨v1, rfl, hr, hb⟩; obtain ⟨a1, cap1, rfl, hB, -⟩ := hr.bs HF.out.2.1 (by rw [HF.out.1]; decide); rw [HF.out.1] at hB ⊢; have HB1 := hideL hB; have HW1 := hideL hb; have HT1 := hideL (HT.out.below hb HT.out.pos); clear hr hb hB HE1)
    | (go_at_call 13; have hq := HB1; clear hq; refine (decode_any a1 17 cap1 _ _ HB1.out HT1.out).mono ?_; rintro e w2 ⟨rfl, hb⟩; rw [HF.out.2.2.1]; simp only [mv, pingM]; have HB2 := hideL (HB1.out.below hb); have HW2 := hideL (HW1.out.trans (hb.mono HW1.out.size)); have HT2 := hideL (HT1.out.below hb HT1.out.pos); clear hb HB1 HW1 HT1)
    | (go_at_call 9; have hq := HE2; clear hq; have hb0 := (Below.refl w2.heap.size w2).alloc (Nat.le_refl _) (.cells (mcs pingM).toArray 29); have hc0 := heap_alloc_new w2 (.cells (mcs pingM).toArray 29); refine (HE2.out _ (HT2.out.below hb0 HT2.out.pos)).mono ?_; rintro e w3 ⟨v3, rfl, hr, hb⟩; obtain ⟨a3, cap3, rfl, -⟩ := hr.has; have HB3 := hideL ((HB2.out.below hb0).below hb); have HC3 := hideL ((hb.block _ (by simp)).trans hc0); have HW3 := hideL ((HW2.out.trans (hb0.mono HW2.out.size)).trans (hb.mono (by have := HW2.out.size; simp; omega))); have HT3 := hideL ((HT2.out.below hb0 HT2.out.pos).below hb (by simp)); clear hr hb hb0 hc0 HB2 HW2 HT2 HE2)
    | (go_at_call 13; have hq := HB3; clear hq; have hb0 := (Below.refl w3.heap.size w3).alloc (Nat.le_refl _) (.cells (vals [0, 2, 0, 1]).toArray 5); refine (decode_any _ 4 4 [0, 2, 0, 1] _ (Bs.made w3 [0, 2, 0, 1] _ (by simp) (Octets.of_cons (by decide) (by decide) (Octets.of_cons (by decide) (by decide) (Octets.of_cons (by decide) (by decide) (Octets.of_cons (by decide) (by decide) Octets.nil)))) (by decide)) (HT3.out.below hb0 HT3.out.pos)).mono ?_; rintro e w4 ⟨rfl, hb⟩; rw [dec_a]; simp only [mv, zeroM]; have HB4 := hideL ((HB3.out.below hb0).below hb); have HC4 := hideL (((hb0.trans (hb.mono (by simp))).block _ (Array.getElem?_eq_some_iff.1 HC3.out).1).trans HC3.out); have HW4 := hideL ((HW3.out.trans (hb0.mono HW3.out.size)).trans (hb.mono (by have := HW3.out.size; simp; omega))); have HT4 := hideL ((HT3.out.below hb0 HT3.out.pos).below hb (by simp)); clear hb hb0 HB3 HC3 HW3 HT3)
    | (go_at_call 13; have hq := HB4; clear hq; have hb0 := ((Below.refl w4.heap.size w4).alloc (Nat.le_refl _) (.cells (mcs zeroM).toArray 29)).alloc (by simp) (.cells (vals [0, 0]).toArray 5); refine (decode_any _ 2 2 [0, 0] _ (Bs.made _ [0, 0] _ (by simp) (Octets.of_cons (by decide) (by decide) (Octets.of_cons (by decide) (by decide) Octets.nil)) (by decide)) (HT4.out.below hb0 HT4.out.pos)).mono ?_; rintro e w5 ⟨rfl, hb⟩; rw [dec_b]; simp only [mv, zeroM]; have hB5 := (HB4.out.below hb0).below hb; have hC5 := ((hb0.trans (hb.mono (by simp; omega))).block _ (Array.getElem?_eq_some_iff.1 HC4.out).1).trans HC4.out; have HW5 := hideL ((HW4.out.trans (hb0.mono HW4.out.size)).trans (hb.mono (by have := HW4.out.size; simp; omega))); obtain ⟨xb, xo, rfl, d8, d15, d16⟩ := aw_cells hB5 HF.out.2.2.2; obtain ⟨y0, y1, y2, y3, y4, y5, y6⟩ := aw_mcs hC5; clear hb hb0 HB4 HC4 HW4 HT4 hB5 hC5))
  go_ret
  exact ⟨rfl, HW5.out.alloc HW5.out.size _⟩
end Go.Proofs.YteeclghhoioapaaDoor
