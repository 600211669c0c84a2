/-
  The chooser; a failure that is to come; loose changes told.
-/
import Derived.Test.YtkmohpdcchpndaaRen
namespace Go.Proofs.Ytkmohpdcchpndaa
open Go.RowKit
set_option linter.unusedVariables false
set_option linter.unusedSimpArgs false
set_option maxRecDepth 100000
/-- numbers that are handed in -/
def Nrs (w : World) (a : Option Addr) (cs : List Int) (gl : List Nat) : Prop := cs = [] ∨ ∃ g off, a = some ⟨g, off, none⟩ ∧ g ∈ gl ∧ ∀ j, j < cs.length → w.cell? ⟨g, off + j, none⟩ = some (.int .i64 (cs.getD j 0))
theorem Nrs.keep {w w' : World} {a : Option Addr} {cs : List Int} {gl : List Nat} (h : Nrs w a cs gl) (hk : ∀ k ∈ gl, w'.heap[k]? = w.heap[k]?) : Nrs w' a cs gl :=
  h.imp id fun ⟨g, off, e, hm, hc⟩ => ⟨g, off, e, hm, fun j hj => (World.cell?_of_block (w := w) (hk g hm)).trans (hc j hj)⟩
theorem chooser_any (w : World) (a : Option Addr) (n cap : Nat) (cs : List Int) (gl : List Nat) (hl : cs.length = n) (hN : Nrs w a cs gl) (hlt : ∀ k ∈ gl, k < w.heap.size) (hr : ∀ c ∈ cs, -9223372036854775808 ≤ c ∧ c ≤ 9223372036854775807) (hf : cs.length ≤ 17592186044000) :
    Calls Try.prog 38 #[.slice a n cap] w fun e w' => ∃ nb cb, e = .returned (.func (.func 62) #[] #[.pointer (some ⟨nb, 0, none⟩), .pointer (some ⟨cb, 0, none⟩)]) ∧ Ch w' w.heap.size nb cb 0 cs gl ∧ Below w.heap.size w w' ∧ w.heap.size ≤ nb ∧ nb < w'.heap.size ∧ w.heap.size ≤ cb ∧ cb < w'.heap.size := by
  have st := st_func
  go_enter Try.func38, Try.ntmps38
  go_wp2_with fail
  have hB : Below w.heap.size w ((w.alloc (.cells #[.slice a n cap] 23 (0, 0))).alloc (.cells #[.int .i64 0] 3 (0, 0))) := ((Below.refl _ _).alloc (Nat.le_refl _) _).alloc (by simp) _
  go_ret
  refine ⟨w.heap.size + 1, w.heap.size, rfl, ⟨alloc_new (by simp), by omega, Nat.le_refl _, ⟨a, cap, ?_, ?_⟩, fun h => ?_, hr, hf⟩, hB, by omega, by simp, Nat.le_refl _, by simp; omega⟩
  · rw [Below.heap_alloc _ _ _ (by simp), hl]; exact alloc_new rfl
  · exact hN.keep fun k hk => hB.block k (hlt k hk)
  · have := hlt _ h; omega
theorem some_name {nm : ByteArray} (h : 1 ≤ nm.size) : ¬ nm.toList = [] := fun e => by
  rw [ByteArray.toList_eq] at e
  have h2 : nm.data.toList.length = nm.size := rfl
  rw [e] at h2
  simp at h2
  omega
theorem loose_bad (p : Option Addr) (nm : ByteArray) (E : Int) (w : World) (h0 : 1 ≤ nm.size) (h : Calls Try.prog 30 #[.pointer p, .string nm] w fun e w' => e = .returned (.tuple #[.pointer none, .int .i64 E]) ∧ Below w.heap.size w w') (hE : (E == 0) = false) : Ans 9 #[.pointer p, .string nm] w fun v w' => v = 0 ∧ Below w.heap.size w w' := by
  have HC : Hid (Calls Try.prog 30 #[.pointer p, .string nm] w fun e w' => e = .returned (.tuple #[.pointer none, .int .i64 E]) ∧ Below w.heap.size w w') := h
  have hne := some_name h0
  clear h
  go_enter Try.func9, Try.ntmps9
  go_wp2_with (first | (go_at_call 30; refine HC.out.mono ?_; rintro e w1 ⟨rfl, hb⟩; have HB : Hid (Below w.heap.size w w1) := hb; clear hb))
  go_ret
  exact ⟨0, rfl, rfl, HB.out⟩
theorem loose_ok (p : Option Addr) (nm : ByteArray) (base fb : Nat) (f : Fs) (w : World) (h0 : 1 ≤ nm.size) (h : Calls Try.prog 30 #[.pointer p, .string nm] w fun e w' => e = .returned (.tuple #[.pointer (some ⟨fb, 0, none⟩), .int .i64 0]) ∧ Below w.heap.size w w') (hf : Fil w base fb f) : Ans 9 #[.pointer p, .string nm] w fun v w' => v = f.ls.length ∧ Below w.heap.size w w' := by
  obtain ⟨ao, cap, hlo⟩ := own_slice hf.row
  have hblk := hf.blk
  rw [hlo] at hblk
  obtain ⟨L, hL⟩ : ∃ L, f.ls.length = L := ⟨_, rfl⟩
  rw [hL] at hblk ⊢
  have HC : Hid (Calls Try.prog 30 #[.pointer p, .string nm] w fun e w1 => e = .returned (.tuple #[.pointer (some ⟨fb, 0, none⟩), .int .i64 0]) ∧ w1.cell? ⟨fb, 1, none⟩ = some (.slice ao L cap) ∧ Below w.heap.size w w1) := h.mono fun e w1 ⟨he, hb⟩ =>
    ⟨he, by rw [cell_block ((hb.block fb (lt_of_block hblk)).trans hblk)]; rfl, hb⟩
  have hne := some_name h0
  clear h hf hblk hlo hL
  go_enter Try.func9, Try.ntmps9
  go_wp2_with (first | (go_at_call 30; refine HC.out.mono ?_; rintro e w1 ⟨rfl, x0, hb⟩; have HB : Hid (Below w.heap.size w w1) := hb; clear hb))
  go_ret
  exact ⟨L, rfl, rfl, HB.out⟩
theorem loose_dir (w : World) (base d : Nat) (x : Dr) (h : Dir w base d x) (hup : x.c1 = .bool false) : Ans 9 #[.pointer (some ⟨d, 0, none⟩), .string "".toUTF8] w fun v w' => v = x.ls.length ∧ w' = w := by
  obtain ⟨ao, cap, hlo⟩ := own_slice h.row
  have hblk := h.blk
  rw [hlo, hup] at hblk
  obtain ⟨L, hL⟩ : ∃ L, x.ls.length = L := ⟨_, rfl⟩
  rw [hL] at hblk ⊢
  have h4 : w.cell? ⟨d, 4, none⟩ = some (.slice ao L cap) := by rw [cell_block hblk]; rfl
  have HC : Hid (Calls Try.prog 29 #[.pointer (some ⟨d, 0, none⟩), .slice none 0 0] w fun e w' => e = .returned (.int .i64 0) ∧ w' = w) := refuses_ok d none 0 0 [] w (by rw [cell_block hblk]; rfl) rfl (by omega) (.inl rfl) (fun s hs => by cases hs)
  clear h hblk hlo hL
  go_enter Try.func9, Try.ntmps9
  go_wp2_with (first | (go_at_call 29; refine HC.out.mono ?_; rintro e w1 ⟨rfl, hw⟩; subst hw))
  go_ret
  exact ⟨L, rfl, rfl, rfl⟩
end Go.Proofs.Ytkmohpdcchpndaa
