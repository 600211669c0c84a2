/-
  awake.
-/
import Derived.Test.YtmljljpldljpjaaCk
import Derived.Test.YtmljljpldljpjaaCm
namespace Go.Proofs.Ytmljljpldljpjaa
open Go.RowKit
set_option linter.unusedVariables false
set_option linter.unusedSimpArgs false
set_option maxRecDepth 100000
def rA (ea : Option Addr) : Rx := ⟨⟨1, ⟨#[97]⟩, [⟨#[101]⟩], [], ⟨#[]⟩, [], ⟨#[]⟩, false⟩, ea, 1, none, 0, none, 0⟩
def rS (ta : Option Addr) : Rx := ⟨⟨2, ⟨#[115]⟩, [], [⟨⟨#[97]⟩, ⟨#[]⟩, 4636737291354636288⟩], ⟨#[]⟩, [], ⟨#[]⟩, false⟩, none, 0, ta, 1, none, 0⟩
theorem rA_says (ea : Option Addr) : mgL [] [(rA ea).toRs] = [(rA ea).toRs] ∧ mgA [] [(rA ea).toRs] = 0 ∧ mgX [] [(rA ea).toRs] = 0 := by
  have : mrF [] [(rA ea).toRs] = none := by rfl
  unfold mgL mgA mgX
  rw [this]
  exact ⟨rfl, rfl, rfl⟩
theorem rS_says (ta : Option Addr) : lookF (fun _ r => looF [(rS ta).toRs] r) [(rS ta).toRs] = some (0, 1) ∧ astF [(rS ta).toRs] = 1 := by
  exact ⟨rfl, rfl⟩
theorem cel_one {W : World} {B k : Nat} {t : TypeId} {r : List Value} (h : W.heap[B]? = some (.cells r.toArray t (0, 0))) : Cel W (some ⟨B, 0, none⟩) k [r] := by
  refine .inr ⟨B, 0, rfl, fun i r' hi j u hu => ?_⟩
  obtain rfl : i = 0 := by have := (List.getElem?_eq_some_iff.1 hi).1; simp at this; exact this
  simp at hi
  subst hi
  rw [cell_block h]
  simpa using hu
theorem okS_small {l : List UInt8} (h : l.length ≤ 10) : okS ⟨l.toArray⟩ := by unfold okS; show l.toArray.size ≤ _; simp; omega
theorem rA_in {W : World} {g B : Nat} (h1 : W.heap[g]? = some (.cells #[.string ⟨#[101]⟩] 9 (0, 0))) (h2 : W.heap[B]? = some (boxO (rA (some ⟨g, 0, none⟩)))) : Lr W (some ⟨B, 0, none⟩) [rA (some ⟨g, 0, none⟩)] := by
  refine ⟨fun o ho => ?_, cel_one (r := (rA (some ⟨g, 0, none⟩)).row) h2⟩
  obtain rfl := List.mem_singleton.1 ho
  refine ⟨cel_one (r := [.string ⟨#[101]⟩]) h1, .inl rfl, .inl rfl, by show (-9223372036854775808 : Int) ≤ 1 ∧ (1 : Int) ≤ 9223372036854775807; omega, okS_small (l := [97]) (by decide), okS_small (l := []) (by decide), okS_small (l := []) (by decide), fun x hx => ?_, fun x hx => (by cases hx), fun x hx => (by cases hx), Nat.le_of_ble_eq_true rfl, Nat.le_of_ble_eq_true rfl, Nat.le_of_ble_eq_true rfl⟩
  obtain rfl := List.mem_singleton.1 hx
  exact okS_small (l := [101]) (by decide)
theorem rS_in {W : World} {g B : Nat} (h1 : W.heap[g]? = some (.cells #[.string ⟨#[97]⟩, .string ⟨#[]⟩, .float .f64 4636737291354636288] 57 (0, 0))) (h2 : W.heap[B]? = some (boxO (rS (some ⟨g, 0, none⟩)))) : Lr W (some ⟨B, 0, none⟩) [rS (some ⟨g, 0, none⟩)] := by
  refine ⟨fun o ho => ?_, cel_one (r := (rS (some ⟨g, 0, none⟩)).row) h2⟩
  obtain rfl := List.mem_singleton.1 ho
  refine ⟨.inl rfl, cel_one (r := [.string ⟨#[97]⟩, .string ⟨#[]⟩, .float .f64 4636737291354636288]) h1, .inl rfl, by show (-9223372036854775808 : Int) ≤ 2 ∧ (2 : Int) ≤ 9223372036854775807; omega, okS_small (l := [115]) (by decide), okS_small (l := []) (by decide), okS_small (l := []) (by decide), fun x hx => (by cases hx), fun x hx => ?_, fun x hx => (by cases hx), Nat.le_of_ble_eq_true rfl, Nat.le_of_ble_eq_true rfl, Nat.le_of_ble_eq_true rfl⟩
  obtain rfl := List.mem_singleton.1 hx
  exact ⟨okS_small (l := [97]) (by decide), okS_small (l := []) (by decide), by decide⟩
theorem al_size (w : World) (o : Obj) : (w.alloc o).heap.size = w.heap.size + 1 := Array.size_push _
theorem new_at (w : World) (o : Obj) {n : Nat} (h : w.heap.size = n) : (w.alloc o).heap[n]? = some o := by subst h; exact heap_alloc_new w o
theorem rA_lr (w : World) : Lr (((w.alloc (.cells #[.string ⟨#[101]⟩] 9 (0, 0))).alloc (boxO (rA (some ⟨w.heap.size, 0, none⟩)))).alloc (boxO (rA (some ⟨w.heap.size, 0, none⟩)))) (some ⟨w.heap.size + 1 + 1, 0, none⟩) [rA (some ⟨w.heap.size, 0, none⟩)] := by
  refine rA_in ?_ (new_at _ _ (by rw [al_size, al_size]))
  exact (Gr.alloc _ _).below.cells ((Gr.alloc _ _).below.cells (heap_alloc_new w _))
theorem rS_lr (w : World) : Lr ((w.alloc (.cells #[.string ⟨#[97]⟩, .string ⟨#[]⟩, .float .f64 4636737291354636288] 57 (0, 0))).alloc (boxO (rS (some ⟨w.heap.size, 0, none⟩)))) (some ⟨w.heap.size + 1, 0, none⟩) [rS (some ⟨w.heap.size, 0, none⟩)] := by
  refine rS_in ?_ (new_at _ _ (by rw [al_size]))
  exact (Gr.alloc _ _).below.cells (heap_alloc_new w _)
set_option maxHeartbeats 16000000 in
theorem awake_any (w : World) : Calls Try.prog 22 #[] w fun e w' => e = .returned (.bool true) ∧ Below w.heap.size w w' := by
  have HA := hideL (rA_lr w)
  have HG := hideL (((Gr.alloc w (.cells #[.string ⟨#[101]⟩] 9 (0, 0))).trans (Gr.alloc _ (boxO (rA (some ⟨w.heap.size, 0, none⟩))))).trans (Gr.alloc _ (boxO (rA (some ⟨w.heap.size, 0, none⟩)))))
  unfold boxO at HA HG
  obtain ⟨w1, hw1⟩ : ∃ X, (((w.alloc (.cells #[.string ⟨#[101]⟩] 9 (0, 0))).alloc (.cells #[.int .i64 1, .string ⟨#[97]⟩, .slice (some ⟨w.heap.size, 0, none⟩) 1 1, .slice none 0 0, .string ⟨#[]⟩, .slice none 0 0, .string ⟨#[]⟩, .bool false] 52 (0, 0))).alloc (.cells #[.int .i64 1, .string ⟨#[97]⟩, .slice (some ⟨w.heap.size, 0, none⟩) 1 1, .slice none 0 0, .string ⟨#[]⟩, .slice none 0 0, .string ⟨#[]⟩, .bool false] 52 (0, 0))) = X := ⟨_, rfl⟩
  have HA1 : Hid (Lr w1 (some ⟨w.heap.size + 1 + 1, 0, none⟩) [rA (some ⟨w.heap.size, 0, none⟩)]) := by rw [← hw1]; exact HA.out
  have HG1 : Hid (Gr w w1) := by rw [← hw1]; exact HG.out
  have HM : Hid (Calls Try.prog 10 #[.slice none 0 0, .slice (some ⟨w.heap.size + 1 + 1, 0, none⟩) 1 1] w1 fun e w' => ∃ a k, e = .returned (.tuple #[.slice a 1 k, .int .i64 0, .int .i64 0]) ∧ (∃ g off, a = some ⟨g, off, none⟩ ∧ w'.cell? ⟨g, off + 1, none⟩ = some (.string ⟨#[97]⟩)) ∧ Below w1.heap.size w1 w') := by
    have := merge_e w1 none (some ⟨w.heap.size + 1 + 1, 0, none⟩) 0 1 [] [rA (some ⟨w.heap.size, 0, none⟩)] (lr_nil _) HA1.out (Nat.zero_le _) (Nat.le_of_ble_eq_true rfl)
    refine this.mono ?_
    rintro e w' ⟨a, k, Q, rfl, h1, h2, h3, h4⟩
    obtain ⟨r1, r2, r3⟩ := rA_says (some ⟨w.heap.size, 0, none⟩)
    have e1 : mgL (([] : List Rx).map Rx.toRs) ([rA (some ⟨w.heap.size, 0, none⟩)].map Rx.toRs) = [(rA (some ⟨w.heap.size, 0, none⟩)).toRs] := r1
    have e2 : mgA (([] : List Rx).map Rx.toRs) ([rA (some ⟨w.heap.size, 0, none⟩)].map Rx.toRs) = 0 := r2
    have e3 : mgX (([] : List Rx).map Rx.toRs) ([rA (some ⟨w.heap.size, 0, none⟩)].map Rx.toRs) = 0 := r3
    rw [e1] at h1 h3 ⊢
    rw [e2, e3]
    refine ⟨a, k, rfl, ?_, h4⟩
    match Q, h1 with
    | [q], _ =>
      obtain ⟨g, off, ea, _, c1, _⟩ := h2.row.cells (i := 0) (o := q) rfl
      have hq : q.toRs = (rA (some ⟨w.heap.size, 0, none⟩)).toRs := by simpa using h3
      refine ⟨g, off, ea, ?_⟩
      rw [Nat.zero_mul, Nat.add_zero] at c1
      rw [c1, hq]; rfl
  clear HA HG HA1
  go_enter Try.func22, Try.ntmps22
  go_wp2_with fail
  refine HM.out.mono ?_
  rintro e w2 ⟨a2, k2, rfl, ⟨g, off, rfl, c2⟩, hb2⟩
  have HB2 := hideL (HG1.out.below.trans (hb2.mono HG1.out.below.size))
  clear hb2 HM hw1
  have HS := hideL (rS_lr w2)
  have HG3 := hideL ((Gr.alloc w2 (.cells #[.string ⟨#[97]⟩, .string ⟨#[]⟩, .float .f64 4636737291354636288] 57 (0, 0))).trans (Gr.alloc _ (boxO (rS (some ⟨w2.heap.size, 0, none⟩)))))
  unfold boxO at HS HG3
  obtain ⟨w3, hw3⟩ : ∃ X, ((w2.alloc (.cells #[.string ⟨#[97]⟩, .string ⟨#[]⟩, .float .f64 4636737291354636288] 57 (0, 0))).alloc (.cells #[.int .i64 2, .string ⟨#[115]⟩, .slice none 0 0, .slice (some ⟨w2.heap.size, 0, none⟩) 1 1, .string ⟨#[]⟩, .slice none 0 0, .string ⟨#[]⟩, .bool false] 52 (0, 0))) = X := ⟨_, rfl⟩
  have HS3 : Hid (Lr w3 (some ⟨w2.heap.size + 1, 0, none⟩) [rS (some ⟨w2.heap.size, 0, none⟩)]) := by rw [← hw3]; exact HS.out
  have HGR : Hid (Gr w2 w3) := by rw [← hw3]; exact HG3.out
  have HC : Hid (Calls Try.prog 14 #[.slice (some ⟨w2.heap.size + 1, 0, none⟩) 1 1] w3 fun e w' => ChB w3 (0, 1, 140) e w') := by
    obtain ⟨r1, r2⟩ := rS_says (some ⟨w2.heap.size, 0, none⟩)
    refine check_bad w3 _ 1 1 (0, 1, 140) (by decide) (fun W hW => ?_)
    have := faultOf_any W (some ⟨w2.heap.size + 1, 0, none⟩) 1 1 [rS (some ⟨w2.heap.size, 0, none⟩)] (some (0, 1)) none none none (HS3.out.below hW) rfl (by decide)
      (fun _ _ W' hW' => by
        have := dangling_any W' (some ⟨w2.heap.size + 1, 0, none⟩) 1 1 [rS (some ⟨w2.heap.size, 0, none⟩)] ((HS3.out.below hW).below hW') rfl (by decide)
        rw [show lookF (fun _ r => looF ([rS (some ⟨w2.heap.size, 0, none⟩)].map Rx.toRs) r) ([rS (some ⟨w2.heap.size, 0, none⟩)].map Rx.toRs) = some (0, 1) from r1] at this
        exact this)
      (fun _ _ h => by cases h) (fun _ _ h => by cases h) (fun _ _ h => by cases h)
    have e : fltF ([rS (some ⟨w2.heap.size, 0, none⟩)].map Rx.toRs) (some (0, 1)) none none none = (0, 1, 140) := by
      unfold fltF
      rw [if_neg (fun h => h r2), if_neg (by show ¬ 64 < 1; decide)]
      rfl
    rw [e] at this
    exact this
  unfold ChB fltV at HC
  dsimp only at HC
  clear HS HG3
  go_wp2_with fail
  refine HC.out.mono ?_
  rintro e w4 ⟨rfl, hb4⟩
  replace c2 := cell_of_below hb4 (HGR.out.cell c2)
  have HB3 := hideL (HB2.out.trans (HGR.out.below.mono HB2.out.size))
  have HB4 := hideL (HB3.out.trans (hb4.mono HB3.out.size))
  clear hb4 HC hw3
  have c2' := fun X => (alloc_cell w4 X (World.block_lt_of_cell? w4 _ c2)).trans c2
  go_wp2_with fail
  go_ret
  exact ⟨rfl, HB4.out.trans ((Gr.alloc _ _).below.mono HB4.out.size)⟩
end Go.Proofs.Ytmljljpldljpjaa
