/-
  The directory synced; a map cloned.
-/
import Derived.Test.YtkmohpdcchpndaaDkeep
import Derived.Test.YtkmohpdcchpndaaFail
import Derived.Shelf.SlMaps.Clone
namespace Go.Proofs.Ytkmohpdcchpndaa
open Go.RowKit
set_option linter.unusedVariables false
set_option linter.unusedSimpArgs false
set_option maxRecDepth 100000
theorem dloose_none {w : World} {base b : Nat} {f : Dr} (h : Dir w base b f) : Dt w (w.setCell ⟨b, 4, none⟩ (.slice none 0 0)) base b f { f with lo := .slice none 0 0, ls := [] } :=
  dloose_turn (ls := []) h (World.ownsRow_nil _ _ _ _) (World.grownBy.refl _ _) (.inr fun g e => by cases e) (fun c hc => by cases hc)
theorem dsync_any (w : World) (base b : Nat) (f : Dr) (h : Dir w base b f) (hr : Rd f.last f.ls f.now) (hls : f.ls.length ≤ 1000000000) (hbl : f.bl + f.ls.length < 1000000000) (hbase : base ≤ w.heap.size) :
    Calls Try.prog 32 #[.pointer (some ⟨b, 3, none⟩)] w fun e w' => e = .returned (.tuple #[]) ∧ ∃ g, Dt w w' base b f g ∧ g.last = f.now ∧ g.now = f.now ∧ g.ls = [] ∧ g.nv = f.nv ∧ g.bn = f.bn ∧ g.bl ≤ f.bl + f.ls.length ∧ g.c0 = f.c0 ∧ g.c1 = f.c1 ∧ g.c2 = f.c2 ∧ g.c6 = f.c6 ∧ g.c7 = f.c7 := by
  obtain ⟨a0, k0, hlo⟩ := own_slice h.row
  have hbk := h.blk
  rw [hlo] at hbk
  have hk := dkeep_any w base b f f.ls.length f.now h (Nat.le_refl _) (by rw [List.take_length]; exact hr) hls hbl hbase
  have HK0 := hk.mono (R' := fun e w' => e = .returned (.tuple #[]) ∧ w'.cell? ⟨b, 4, none⟩ = some (.slice a0 f.ls.length k0) ∧ w'.frozen? ⟨b, 4, none⟩ = false ∧ ∃ g, Dt w (w'.setCell ⟨b, 4, none⟩ (.slice none 0 0)) base b f g ∧ g.last = f.now ∧ g.now = f.now ∧ g.ls = [] ∧ g.nv = f.nv ∧ g.bn = f.bn ∧ g.bl ≤ f.bl + f.ls.length ∧ g.c0 = f.c0 ∧ g.c1 = f.c1 ∧ g.c2 = f.c2 ∧ g.c6 = f.c6 ∧ g.c7 = f.c7) (by
    rintro e w' ⟨rfl, g, hK, hz⟩
    have hb := hK.ft.fil.blk
    rw [hK.lo, hlo] at hb
    exact ⟨rfl, by rw [cell_block hb]; rfl, by simp [World.frozen?, hb], _, hK.ft.trans (dloose_none hK.ft.fil), hz, hK.now, rfl, hK.nv, hK.bn, hK.bl, hK.oth⟩)
  obtain ⟨L, hL⟩ : ∃ L, f.ls.length = L := ⟨_, rfl⟩
  rw [hL] at hbk HK0 ⊢
  have c1 : w.cell? ⟨b, 4, none⟩ = some (.slice a0 L k0) := by rw [cell_block hbk]; rfl
  have HK : Hid (Calls Try.prog 58 #[.pointer (some ⟨b, 3, none⟩), .int .i64 L] w fun e w' => e = .returned (.tuple #[]) ∧ w'.cell? ⟨b, 4, none⟩ = some (.slice a0 L k0) ∧ w'.frozen? ⟨b, 4, none⟩ = false ∧ ∃ g, Dt w (w'.setCell ⟨b, 4, none⟩ (.slice none 0 0)) base b f g ∧ g.last = f.now ∧ g.now = f.now ∧ g.ls = [] ∧ g.nv = f.nv ∧ g.bn = f.bn ∧ g.bl ≤ f.bl + L ∧ g.c0 = f.c0 ∧ g.c1 = f.c1 ∧ g.c2 = f.c2 ∧ g.c6 = f.c6 ∧ g.c7 = f.c7) := HK0
  clear hk HK0 h hr hbk hlo hL hls hbl
  go_enter Try.func32, Try.ntmps32
  go_wp2_with (first | (go_at_call 58; refine HK.out.mono ?_; rintro e w1 ⟨rfl, x0, x1, hm⟩; have HM : Hid (∃ g, Dt w (w1.setCell ⟨b, 4, none⟩ (.slice none 0 0)) base b f g ∧ g.last = f.now ∧ g.now = f.now ∧ g.ls = [] ∧ g.nv = f.nv ∧ g.bn = f.bn ∧ g.bl ≤ f.bl + L ∧ g.c0 = f.c0 ∧ g.c1 = f.c1 ∧ g.c2 = f.c2 ∧ g.c6 = f.c6 ∧ g.c7 = f.c7) := hm; clear hm))
  go_end0
  exact ⟨rfl, HM.out⟩
theorem mclone_any (w : World) (base : Nat) (mo : Option Nat) (od : Option (DataW Unit)) (n : Nat) (h : Dm w base (.map mo) od n) : Calls Try.prog 40 #[.map mo] w fun e w' => ∃ mo', e = .returned (.map mo') ∧ Dm w' w.heap.size (.map mo') od n ∧ Below w.heap.size w w' := by
  cases mo with
  | none =>
    have hod : od = none := by
      rcases h with ⟨_, h⟩ | ⟨m, D, e, _⟩
      · exact h
      · cases e
    have hmeq := map_eql none
    go_enter Try.func40, Try.ntmps40
    go_wp2_with fail
    go_ret
    exact ⟨none, rfl, .inl ⟨rfl, hod⟩, Below.refl _ _⟩
  | some m =>
    rcases h with ⟨e, _⟩ | ⟨m', D, e, rfl, h1, ⟨es, clock, hb, hfit, hsz, hD⟩, h3⟩
    · cases e
    · cases e
      have hmeq := map_eql (some m)
      go_enter Try.func40, Try.ntmps40
      go_wp2_with fail
      rw [run_callFunc_extern Try.func63 (by kernel_rfl) (by kernel_rfl) (by kernel_rfl) (e := Extern.MapsClone.clone) (by kernel_rfl), run_maps_clone_sl w 62 hb]
      simp only [Result.andThen]
      rw [Oper.upon_value]
      go_wp2
      rw [run_typeAssert_map_sl _ 62 20 _ _ _ Try.underlying62]
      simp only [Result.andThen]
      rw [Oper.upon_value]
      go_wp2
      go_ret
      exact ⟨some w.heap.size, rfl, .inr ⟨w.heap.size, D, rfl, rfl, Nat.le_refl _, ⟨es, clock, Go.heap_alloc_new w _, hfit, hsz, hD⟩, h3⟩, (Below.refl _ _).alloc (Nat.le_refl _) _⟩
end Go.Proofs.Ytkmohpdcchpndaa
