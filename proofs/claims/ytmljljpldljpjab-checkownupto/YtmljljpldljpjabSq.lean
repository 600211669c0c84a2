/-
  spoil of a list that lies in memory of its own.
-/
import Derived.Test.YtmljljpldljpjabSp
namespace Go.Proofs.Ytmljljpldljpjab
open Go.RowKit
set_option linter.unusedVariables false
set_option linter.unusedSimpArgs false
set_option maxRecDepth 100000
theorem Sps.of_ol {W0 w : World} {B : Nat} {g n c : Nat} {os : List Rx} {In : Nat → Prop} (h : Ol W0 B (.slice (some ⟨g, 0, none⟩) n c) os) (hk : ∀ o ∈ os, Rok o.toRs) (hb : Below W0.heap.size W0 w) (hn : os.length = n) (hI : ∀ k, B ≤ k → k < W0.heap.size → In k) : Sps w w In g n c (rowsOf Rx.row os) 0 1048576 1048576 1048576 := by
  subst hn
  have h2 := h.below hb
  refine ⟨Sp.refl _ _, own_low' h2.row (Nat.zero_le _), ?_, fun j hj => ?_⟩
  · have := h.row.lt (k := g) rfl
    exact hI g this.1 this.2
  · obtain ⟨o, ho⟩ : ∃ o, os[j]? = some o := ⟨os[j], List.getElem?_eq_getElem hj⟩
    have hm := List.mem_of_getElem? ho
    have hr := h.each o hm
    have hr2 := h2.each o hm
    have kk := hk o hm
    simp only [ite_self]
    exact ⟨⟨_, rowsOf_at Rx.row 8 rx_len os j o ho 2 _ rfl, _, _, _, _, rfl, own_low' hr2.e (Nat.zero_le _), by have := kk.le; omega, fun k hk' => hI k (hr.lt (.inl hk')).1 (hr.lt (.inl hk')).2⟩,
      ⟨_, rowsOf_at Rx.row 8 rx_len os j o ho 3 _ rfl, _, _, _, _, rfl, own_low' hr2.t (Nat.zero_le _), by have := kk.lt; omega, fun k hk' => hI k (hr.lt (.inr (.inl hk'))).1 (hr.lt (.inr (.inl hk'))).2⟩,
      ⟨_, rowsOf_at Rx.row 8 rx_len os j o ho 5 _ rfl, _, _, _, _, rfl, own_low' hr2.r (Nat.zero_le _), by have := kk.lr; omega, fun k hk' => hI k (hr.lt (.inr (.inr hk'))).1 (hr.lt (.inr (.inr hk'))).2⟩⟩
set_option maxHeartbeats 8000000 in
theorem spoil_nil (w : World) (c : Nat) : Calls Try.prog 8 #[.slice none 0 c] w fun e w' => e = .returned (.tuple #[]) ∧ w' = w := by
  go_enter Try.func8, Try.ntmps8
  go_wp2_with fail
  go_loopw [2] (fun t wr => t = .int .i64 0 ∧ wr = w) (fun t _ => 0)
  case atStart => exact ⟨rfl, rfl⟩
  case round =>
    obtain ⟨rfl, rfl⟩ := hrel
    go_wp2
    first | (refine bodyPost_ret (results_none rfl _ _ _) rfl ?_) | (refine bodyPost_end (results_none rfl _ _ _) rfl ?_)
    exact ⟨rfl, rfl⟩
/-- spoil, whatever list of one's own it is: blocks below and behind are as they were, and the row is a row of some values -/
theorem spoil_any {W0 w : World} {B : Nat} {v : Value} {os : List Rx} (h : Ol W0 B v os) (hk : ∀ o ∈ os, Rok o.toRs) (hb : Below W0.heap.size W0 w) (hn : os.length ≤ 1048576) :
    Calls Try.prog 8 #[v] w fun e w' => e = .returned (.tuple #[]) ∧ Sp (fun k => (B ≤ k ∧ k < W0.heap.size) ∨ w.heap.size ≤ k) w w' ∧ ∃ xs, w'.ownsRow 0 34 8 v os.length xs := by
  obtain ⟨a, c, rfl, hc, -, -⟩ := own_form h.row
  rcases h.row.2 with ⟨h1, h2⟩ | ⟨g, cap, cur, h1, -⟩
  · injection h1 with h3 h4 h5
    subst h3
    rw [h2] at h ⊢
    refine (spoil_nil w c).mono ?_
    rintro e w' ⟨rfl, rfl⟩
    exact ⟨rfl, Sp.refl _ _, [], by simp, .inl ⟨by rw [h5], rfl⟩⟩
  · injection h1 with h3 h4 h5
    subst h3
    refine (spoil_some w (fun k => (B ≤ k ∧ k < W0.heap.size) ∨ w.heap.size ≤ k) g os.length c _ (Sps.of_ol h hk hb rfl (fun k h1 h2 => Or.inl ⟨h1, h2⟩)) (fun k hk => Or.inr hk) hn).mono ?_
    rintro e w' ⟨rfl, ys, hs⟩
    exact ⟨rfl, hs.sp, ys, hs.row⟩
end Go.Proofs.Ytmljljpldljpjab
