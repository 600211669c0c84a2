/-
  Plain facts: rows of frames, whole or cut, are read as just the records that are there whole.
-/
import Derived.Test.YtcjefhgnmpomjaaDoorFramed
namespace Go.Proofs.YtcjefhgnmpomjaaDoor
open Go.RowKit
set_option linter.unusedVariables false

/-- Payloads that have frames. -/
def Fit (gs : List Sl) : Prop := ∀ s ∈ gs, s.zs.length = s.n ∧ s.n ≤ 131072 ∧ Octets s.zs
theorem allOf_frames (zs tail : List Int) (gs : List Sl) (hf : Fit gs) (ht : ∀ N, ¬ IsRec tail N) (k : Nat) (xs : List Told) (hz : zs.drop k = flat gs ++ tail) (h : AllOf zs k xs) : xs.map (·.ps) = gs.map (·.zs) ∧ lastOf k xs = k + (flat gs).length := by
  induction gs generalizing k xs with
  | nil =>
    cases xs with
    | nil => exact ⟨rfl, rfl⟩
    | cons x r =>
      obtain ⟨⟨⟨N, hN, _⟩, _⟩, _⟩ := h
      rw [hz] at hN
      exact absurd hN (ht N)
  | cons s r ih =>
    have hs := hf s (by simp)
    have hz' : zs.drop k = frame s.zs ++ (flat r ++ tail) := by rw [hz]; simp [flat]
    have hrec := isRec_frame s.zs (flat r ++ tail) (by omega)
    cases xs with
    | nil =>
      have := h.2 s.zs.length
      simp only [lastOf] at this
      rw [hz'] at this
      exact absurd hrec.1 this
    | cons x q =>
      obtain ⟨⟨⟨N, hN, hb, hp⟩, hrow⟩, hno⟩ := h
      rw [hz'] at hN hp
      have hNe := hN.same hrec.1
      subst hNe
      rw [hrec.2] at hp
      have hd : zs.drop x.behind = flat r ++ tail := by
        rw [hb, ← List.drop_drop, hz', List.drop_append_of_le_length (by rw [frame_length]; omega), List.drop_of_length_le (by rw [frame_length]; omega), List.nil_append]
      obtain ⟨i1, i2⟩ := ih (fun y hy => hf y (by simp [hy])) x.behind q hd ⟨hrow, hno⟩
      refine ⟨by simp [hp, i1], ?_⟩
      simp only [lastOf]
      rw [i2, hb]
      simp only [flat, List.flatMap_cons, List.length_append, frame_length]
      omega
theorem isRec_cut (zs : List Int) (m : Nat) (hm : m < 8 + zs.length) (hl : zs.length ≤ 131072) : ∀ N, ¬ IsRec ((frame zs).take m) N := by
  intro N h
  have h8 := h.1
  have hn := h.2.1
  have hr := h.2.2.2.1
  have hlen : ((frame zs).take m).length = m := by rw [List.length_take, frame_length]; omega
  rw [hlen] at h8
  rw [List.length_drop, hlen] at hr
  have g : ∀ i, i < 4 → ((frame zs).take m).getD i 0 = (four zs.length).getD i 0 := by
    intro i hi
    have : (frame zs).getD i 0 = (four zs.length).getD i 0 := by
      unfold frame; simp [List.getD, List.getElem?_append_left (show i < (four zs.length).length by simp [four]; omega)]
    rw [← this]; simp [List.getD, show i < m by omega]
  rw [g 0 (by omega), g 1 (by omega), g 2 (by omega), g 3 (by omega)] at hn
  simp [four] at hn
  omega
theorem isRec_nil : ∀ N, ¬ IsRec [] N := fun N h => by have := h.1; simp at this
theorem flat_append (a b : List Sl) : flat (a ++ b) = flat a ++ flat b := by simp [flat]
theorem cut_split (gs : List Sl) (hf : Fit gs) (j c : Nat) (h1 : (flat (gs.take j)).length ≤ c) (h2 : j = gs.length ∨ ∃ s, gs[j]? = some s ∧ c < (flat (gs.take j)).length + (8 + s.n)) :
    ∃ t, (flat gs).take c = flat (gs.take j) ++ t ∧ ∀ N, ¬ IsRec t N := by
  rcases h2 with h | ⟨s, hs, hc⟩
  · subst h
    rw [List.take_length] at h1 ⊢
    exact ⟨[], by rw [List.append_nil, List.take_of_length_le h1], isRec_nil⟩
  · obtain ⟨hj, rfl⟩ := List.getElem?_eq_some_iff.1 hs
    have hfj := hf gs[j] (List.getElem_mem hj)
    have e : flat gs = flat (gs.take j) ++ (frame gs[j].zs ++ flat (gs.drop (j + 1))) := by
      have e0 : gs = gs.take j ++ (gs[j] :: gs.drop (j + 1)) := by
        rw [← List.drop_eq_getElem_cons hj, List.take_append_drop]
      have : flat gs = flat (gs.take j ++ (gs[j] :: gs.drop (j + 1))) := by rw [← e0]
      rw [this, flat_append]
      simp only [flat, List.flatMap_cons]
    refine ⟨(frame gs[j].zs).take (c - (flat (gs.take j)).length), ?_, isRec_cut _ _ (by omega) (by omega)⟩
    rw [e, List.take_append, List.take_of_length_le h1, List.take_append_of_le_length (by rw [frame_length]; omega)]
theorem told_fit {zs : List Int} (hz : Octets zs) : ∀ (k : Nat) (xs : List Told), Row1 zs k xs → ∀ x ∈ xs, Octets x.ps ∧ x.ps.length ≤ 131072
  | _, [], _, x, hx => by cases hx
  | k, y :: r, h, x, hx => by
    rcases List.mem_cons.1 hx with rfl | hx
    · obtain ⟨⟨N, hN, _, hp⟩, _⟩ := h
      rw [hp]
      exact ⟨((hz.drop k).drop 8).take N, by rw [List.length_take]; have := hN.2.2.1; omega⟩
    · exact told_fit hz _ r h.2 x hx
theorem flat_octets (gs : List Sl) (hf : Fit gs) : Octets (flat gs) := by
  induction gs with
  | nil => exact Octets.nil
  | cons s r ih =>
    have hs := hf s (by simp)
    have : flat (s :: r) = frame s.zs ++ flat r := by simp [flat]
    rw [this]
    exact (frame_octets s.zs hs.2.2 (by omega)).append (ih (fun y hy => hf y (by simp [hy])))
theorem plc_at (gs : List Sl) (hf : Fit gs) (j : Nat) (hj : j < gs.length) : (plc 0 gs).getD j 0 = (((flat (gs.take (j + 1))).length : Nat) : Int) ∧ (flat (gs.take (j + 1))).length = (flat (gs.take j)).length + (8 + gs[j].n) := by
  have hlen : ∀ g : List Sl, (∀ s ∈ g, s.zs.length = s.n) → (flat g).length = (g.map fun s => 8 + s.n).sum := fun g hg => flat_length g hg
  have hfl : ∀ i, ∀ s ∈ gs.take i, s.zs.length = s.n := fun i s h => (hf s (List.mem_of_mem_take h)).1
  have key : ∀ (k : Nat) (l : List Sl) (j : Nat) (hj : j < l.length), (plc k l).getD j 0 = ((k + ((l.take (j + 1)).map fun s => 8 + s.n).sum : Nat) : Int) := by
    intro k l
    induction l generalizing k with
    | nil => intro j hj; simp at hj
    | cons x r ih =>
      intro j hj
      cases j with
      | zero => simp [plc]
      | succ j =>
        have := ih (k + (8 + x.n)) j (by simpa using hj)
        simp only [plc, List.getD_cons_succ, this, List.take_succ_cons, List.map_cons, List.sum_cons]
        omega
  refine ⟨by rw [key 0 gs j hj, hlen _ (hfl _), Nat.zero_add], ?_⟩
  rw [hlen _ (hfl _), hlen _ (hfl _), List.take_succ_eq_append_getElem hj, List.map_append, List.sum_append]
  simp
end Go.Proofs.YtcjefhgnmpomjaaDoor
