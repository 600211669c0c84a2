/-
  A file that is synced.
-/
import Derived.Test.YtkmohpdcchpndaaKeep
namespace Go.Proofs.Ytkmohpdcchpndaa
open Go.RowKit
set_option linter.unusedVariables false
set_option linter.unusedSimpArgs false
theorem loose_none {w : World} {base b : Nat} {f : Fs} (h : Fil w base b f) : Ft w (w.setCell ⟨b, 1, none⟩ (.slice none 0 0)) base b f { f with lo := .slice none 0 0, ls := [] } :=
  loose_turn (ls := []) h (World.ownsRow_nil _ _ _ _) (World.grownBy.refl _ _) (.inr fun g e => by cases e) (fun c hc => by cases hc)
theorem sync_any (w : World) (base b : Nat) (f : Fs) (h : Fil w base b f) (hr : Rp f.last f.ls f.now) (hls : f.ls.length ≤ 1000000000) (hbase : base ≤ w.heap.size) :
    Calls Try.prog 48 #[.pointer (some ⟨b, 0, none⟩)] w fun e w' => e = .returned (.tuple #[]) ∧ ∃ g, Ft w w' base b f g ∧ g.last = f.now ∧ g.now = f.now ∧ g.ls = [] := by
  obtain ⟨a0, k0, hlo⟩ := own_slice h.row
  have hbl := h.blk
  rw [hlo] at hbl
  have hk := keep_any w base b f f.ls.length f.now h (Nat.le_refl _) (by rw [List.take_length]; exact hr) hls hbase
  obtain ⟨L, hL⟩ : ∃ L, f.ls.length = L := ⟨_, rfl⟩
  rw [hL] at hbl hk
  have c1 : w.cell? ⟨b, 1, none⟩ = some (.slice a0 L k0) := by simp [World.cell?, hbl]
  have HK : Hid (Calls Try.prog 64 #[.pointer (some ⟨b, 0, none⟩), .int .i64 L] w fun e w' => e = .returned (.tuple #[]) ∧ w'.cell? ⟨b, 1, none⟩ = some (.slice a0 L k0) ∧ w'.frozen? ⟨b, 1, none⟩ = false ∧ ∃ g, Ft w (w'.setCell ⟨b, 1, none⟩ (.slice none 0 0)) base b f g ∧ g.last = f.now ∧ g.now = f.now ∧ g.ls = []) := by
    refine hk.mono ?_
    rintro e w' ⟨rfl, g, hK, hz⟩
    have hb := hK.ft.fil.blk
    rw [hK.lo, hlo, hL] at hb
    exact ⟨rfl, by simp [World.cell?, hb], by simp [World.frozen?, hb], _, hK.ft.trans (loose_none hK.ft.fil), hz, hK.now, rfl⟩
  clear hk h hr hbl hlo hL hls
  go_enter Try.func48, Try.ntmps48
  go_wp2_with (first | (go_at_call 64; refine HK.out.mono ?_; rintro e w1 ⟨rfl, x0, x1, hm⟩; have HM : Hid (∃ g, Ft w (w1.setCell ⟨b, 1, none⟩ (.slice none 0 0)) base b f g ∧ g.last = f.now ∧ g.now = f.now ∧ g.ls = []) := hm; clear hm))
  go_end0
  exact ⟨rfl, HM.out⟩
theorem tmod_rng (c : Int) (most : Nat) : -((most : Int) + 1) < c.tmod (most + 1) ∧ c.tmod (most + 1) < (most : Int) + 1 := by
  refine ⟨?_, Int.tmod_lt_of_pos c (by omega)⟩
  by_cases hc : 0 ≤ c
  · have := Int.tmod_nonneg ((most : Int) + 1) hc; omega
  · have := Int.tmod_lt_of_pos (-c) (b := (most : Int) + 1) (by omega)
    rw [Int.neg_tmod] at this; omega
/-- a number of so many, of a choice -/
def pick (c : Int) (most : Nat) : Int := (c.tmod (most + 1) + (most + 1)).tmod (most + 1)
theorem pick_range (c : Int) (most : Nat) : 0 ≤ pick c most ∧ pick c most ≤ most := by
  unfold pick
  have h1 : -((most : Int) + 1) < c.tmod (most + 1) := by
    by_cases hc : 0 ≤ c
    · have := Int.tmod_nonneg ((most : Int) + 1) hc; omega
    · have := Int.tmod_lt_of_pos (-c) (b := (most : Int) + 1) (by omega)
      rw [Int.neg_tmod] at this; omega
  have h2 : c.tmod (most + 1) < (most : Int) + 1 := Int.tmod_lt_of_pos c (by omega)
  have h3 : 0 ≤ c.tmod (most + 1) + (most + 1) := by omega
  exact ⟨Int.tmod_nonneg _ h3, by have := Int.tmod_lt_of_pos (c.tmod (most + 1) + (most + 1)) (b := (most : Int) + 1) (by omega); omega⟩
theorem in64_wrap64' {x : Int} (h1 : -9223372036854775808 ≤ x) (h2 : x ≤ 9223372036854775807) : wrap64 x = x := by
  unfold wrap64
  omega
def chosen (cs : List Int) (i most : Nat) : Int := if i < cs.length then pick (cs.getD i 0) most else 0
theorem chosen_range (cs : List Int) (i most : Nat) : 0 ≤ chosen cs i most ∧ chosen cs i most ≤ most := by
  unfold chosen
  split
  · exact pick_range _ _
  · omega
/-- the place behind a choice -/
def nxt (cs : List Int) (i : Nat) : Nat := if i < cs.length then i + 1 else i
theorem nxt_le (cs : List Int) (i : Nat) : nxt cs i ≤ i + 1 ∧ i ≤ nxt cs i := by unfold nxt; split <;> omega
/-- a chooser: its next place and its choices -/
structure Ch (w : World) (base nb cb : Nat) (i : Nat) (cs : List Int) (gl : List Nat) : Prop where
  nblk : w.heap[nb]? = some (.cells #[.int .i64 i] 3 (0, 0))
  low : base ≤ nb
  low' : base ≤ cb
  cblk : ∃ a cap, w.heap[cb]? = some (.cells #[.slice a cs.length cap] 23 (0, 0)) ∧ (cs = [] ∨ ∃ g off, a = some ⟨g, off, none⟩ ∧ g ∈ gl ∧ ∀ j, j < cs.length → w.cell? ⟨g, off + j, none⟩ = some (.int .i64 (cs.getD j 0)))
  gnb : nb ∉ gl
  rng : ∀ c ∈ cs, -9223372036854775808 ≤ c ∧ c ≤ 9223372036854775807
  few : cs.length ≤ 17592186044000
theorem Ch.keep {w w' : World} {base nb cb i : Nat} {cs : List Int} {gl : List Nat} (h : Ch w base nb cb i cs gl) (hk : ∀ k, (k = nb ∨ k = cb ∨ k ∈ gl) → w'.heap[k]? = w.heap[k]?) : Ch w' base nb cb i cs gl := by
  obtain ⟨h1, h2, h2', ⟨a, cap, h3, h4⟩, hg, h5, h6⟩ := h
  refine ⟨(hk nb (.inl rfl)).trans h1, h2, h2', ⟨a, cap, (hk cb (.inr (.inl rfl))).trans h3, h4.imp id fun ⟨g, off, e, hm, hc⟩ => ⟨g, off, e, hm, fun j hj => ?_⟩⟩, hg, h5, h6⟩
  rw [← hc j hj]
  exact World.cell?_of_block (w := w) (hk g (.inr (.inr hm)))
theorem choose_any (w : World) (base nb cb i : Nat) (cs : List Int) (gl : List Nat) (most : Nat) (h : Ch w base nb cb i cs gl) (hm : most ≤ 1099511627776) (hi : i ≤ 17592186044001) :
    Calls Try.prog 62 #[.int .i64 most, .pointer (some ⟨nb, 0, none⟩), .pointer (some ⟨cb, 0, none⟩)] w fun e w' => e = .returned (.int .i64 (chosen cs i most)) ∧ (∃ i', i' ≤ i + 1 ∧ i' = nxt cs i ∧ Ch w' base nb cb i' cs gl) ∧ Turn w w' [nb] := by
  obtain ⟨h1, h2, h2', ⟨a, cap, h3, h4⟩, hgl, h5, h6⟩ := h
  have hne : cb ≠ nb := fun e => by rw [e, h1] at h3; cases h3
  have c0 : w.cell? ⟨nb, 0, none⟩ = some (.int .i64 i) := by simp [World.cell?, h1]
  have c1 : w.cell? ⟨cb, 0, none⟩ = some (.slice a cs.length cap) := by simp [World.cell?, h3]
  have z0 : w.frozen? ⟨nb, 0, none⟩ = false := by simp [World.frozen?, h1]
  obtain ⟨L, hL⟩ : ∃ L, cs.length = L := ⟨_, rfl⟩
  have hnx : nxt cs i = if i < L then i + 1 else i := by rw [← hL]; rfl
  by_cases hlt : i < L
  · have HNX : Hid (nxt cs i = i + 1) := hnx.trans (if_pos hlt)
    clear hnx
    have hil : (i : Int) < L := by omega
    rcases h4 with h4 | ⟨g, off, rfl, hgm, h4⟩
    · subst h4; simp at hL; omega
    · have hgn : g ≠ nb := fun e => hgl (e ▸ hgm)
      have c2 := h4 i (by omega)
      have hc : cs.getD i 0 ∈ cs := by
        rw [List.getD_eq_getElem?_getD, List.getElem?_eq_getElem (by omega)]
        exact List.getElem_mem _
      have hr := h5 _ hc
      have hch : chosen cs i most = pick (cs.getD i 0) most := by unfold chosen; rw [if_pos (by omega)]
      have hpr := pick_range (cs.getD i 0) most
      have HF : Hid (Ch (w.setCell ⟨nb, 0, none⟩ (.int .i64 (i + 1 : Nat))) base nb cb (i + 1) cs gl) := by
        refine ⟨by rw [block_setCell h1]; rfl, h2, h2', ⟨_, cap, (Below.heap_setCell _ _ _ _ (by simpa using hne)).trans h3, .inr ⟨g, off, rfl, hgm, fun j hj => ?_⟩⟩, hgl, h5, h6⟩
        rw [← h4 j hj]
        exact World.cell?_of_block (w := w) (Below.heap_setCell _ _ _ _ (by simpa using hgn))
      rw [hch]
      unfold pick at hpr ⊢
      obtain ⟨c, hcc⟩ : ∃ c, cs.getD i 0 = c := ⟨_, rfl⟩
      rw [hcc] at c2 hr hpr ⊢
      rw [hL] at c1
      have i0 : (0 : Int) ≤ i := by omega
      have ht := tmod_rng c most
      have hw : wrap64 (c.tmod (most + 1) + (most + 1)) = c.tmod (most + 1) + (most + 1) := in64_wrap64' (by omega) (by omega)
      clear h1 h3 h4 h5 hc hch hcc ht
      go_enter Try.func62, Try.ntmps62
      go_wp2_with fail
      go_ret
      exact ⟨rfl, ⟨i + 1, by omega, HNX.out.symm, HF.out⟩, Turn.setCell _ _ _ _⟩
  · have HNX : Hid (nxt cs i = i) := hnx.trans (if_neg hlt)
    clear hnx
    have hil : ¬ (i : Int) < L := by omega
    have hch : chosen cs i most = 0 := by unfold chosen; rw [if_neg (by omega)]
    have HF : Hid (Ch w base nb cb i cs gl) := ⟨h1, h2, h2', ⟨a, cap, h3, h4⟩, hgl, h5, h6⟩
    rw [hch]
    rw [hL] at c1
    clear h1 h3 h4 h5 hch hL
    go_enter Try.func62, Try.ntmps62
    go_wp2_with fail
    go_ret
    exact ⟨rfl, ⟨i, by omega, HNX.out.symm, HF.out⟩, Turn.refl _ _⟩
end Go.Proofs.Ytkmohpdcchpndaa
