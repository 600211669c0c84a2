/-
  What makes one list another: plain.
-/
import Derived.Test.YtmljljpldljpjabPu
import Derived.Test.YtmljljpldljpjabSd
import Derived.Test.YtmljljpldljpjabLi
namespace Go.Proofs.Ytmljljpldljpjab
open Go.RowKit
set_option linter.unusedVariables false
set_option linter.unusedSimpArgs false
def putM (l : List Rs) (r : Rs) : List Rs := l.take (cntB l r) ++ [r] ++ l.drop (cntB l r)
theorem putX_says (os : List Rx) (r : Rx) : (putX os r).map Rx.toRs = putM (os.map Rx.toRs) r.toRs := by
  unfold putX putM
  simp [List.map_take, List.map_drop]
theorem putM_mem {l : List Rs} {r x : Rs} : x ∈ putM l r ↔ x = r ∨ x ∈ l := by
  unfold putM
  generalize cntB l r = k
  have e : x ∈ l ↔ x ∈ l.take k ∨ x ∈ l.drop k := by
    rw [← List.mem_append, List.take_append_drop]
  rw [List.mem_append, List.mem_append, e, List.mem_singleton]
  constructor
  · rintro ((h | h) | h)
    · exact .inr (.inl h)
    · exact .inl h
    · exact .inr (.inr h)
  · rintro (h | h | h)
    · exact .inl (.inr h)
    · exact .inl (.inl h)
    · exact .inr h
theorem putM_cons (a : Rs) (l : List Rs) (r : Rs) : putM (a :: l) r = if lessB a r = true then a :: putM l r else r :: a :: l := by
  unfold putM cntB
  by_cases h : lessB a r = true
  · rw [if_pos h]; simp [List.takeWhile_cons, h]
  · rw [if_neg h]; simp [List.takeWhile_cons, h]
theorem putM_nil (r : Rs) : putM [] r = [r] := rfl
theorem putM_len (l : List Rs) (r : Rs) : (putM l r).length = l.length + 1 := by
  unfold putM; simp; omega
theorem putM_KS : ∀ {l : List Rs} {r : Rs}, KS l → (∀ x ∈ l, x.key ≠ r.key) → KS (putM l r)
  | [], r, _, _ => by rw [putM_nil]; exact List.pairwise_singleton _ _
  | a :: l, r, h, hne => by
    obtain ⟨h1, h2⟩ := List.pairwise_cons.1 h
    rw [putM_cons]
    by_cases hl : lessB a r = true
    · rw [if_pos hl]
      refine List.pairwise_cons.2 ⟨fun x hx => ?_, putM_KS h2 (fun x hx => hne x (by simp [hx]))⟩
      rcases putM_mem.1 hx with e | hx
      · rw [e]; exact (lessB_iff _ _).1 hl
      · exact h1 x hx
    · rw [if_neg hl]
      have hra : klt r.key a.key := by
        rcases klt_total (hne a (by simp)) with h | h
        · exact absurd ((lessB_iff _ _).2 h) hl
        · exact h
      refine List.pairwise_cons.2 ⟨fun x hx => ?_, h⟩
      rcases List.mem_cons.1 hx with e | hx
      · rw [e]; exact hra
      · exact klt_trans hra (h1 x hx)
def foldP (L : List Rs) : List Rs := L.foldl putM []
theorem foldP_snoc (L : List Rs) (r : Rs) : foldP (L ++ [r]) = putM (foldP L) r := by simp [foldP]
theorem foldP_len (L : List Rs) : (foldP L).length = L.length := by
  have : ∀ (L acc : List Rs), (L.foldl putM acc).length = acc.length + L.length := by
    intro L
    induction L with
    | nil => intro acc; simp
    | cons a L ih => intro acc; rw [List.foldl_cons, ih, putM_len, List.length_cons]; omega
  have := this L []
  simpa [foldP] using this
theorem foldP_spec {L : List Rs} (h : (L.map Rs.key).Nodup) : KS (foldP L) ∧ ∀ r, r ∈ foldP L ↔ r ∈ L := by
  have : ∀ (n : Nat) (L : List Rs), L.length = n → (L.map Rs.key).Nodup → KS (foldP L) ∧ ∀ r, r ∈ foldP L ↔ r ∈ L := by
    intro n
    induction n with
    | zero => intro L hl _; obtain rfl := List.length_eq_zero_iff.1 hl; exact ⟨List.Pairwise.nil, fun r => by simp [foldP]⟩
    | succ n ih =>
      intro L hl hn
      have hne : L ≠ [] := by intro h; subst h; simp at hl
      obtain ⟨L', x, rfl⟩ : ∃ L' x, L = L' ++ [x] := ⟨L.dropLast, L.getLast hne, (List.dropLast_concat_getLast hne).symm⟩
      rw [List.map_append, List.nodup_append] at hn
      obtain ⟨h1, h2⟩ := ih L' (by simpa using hl) hn.1
      rw [foldP_snoc]
      refine ⟨putM_KS h1 (fun y hy e => ?_), fun r => ?_⟩
      · have := (h2 y).1 hy
        exact hn.2.2 y.key (List.mem_map_of_mem this) x.key (by simp) e
      · rw [putM_mem, h2, List.mem_append, List.mem_singleton]; exact or_comm
  exact this L.length L rfl h
theorem SortP.spec {L M : List Rs} (h : SortP L M) (hn : (L.map Rs.key).Nodup) : KS M ∧ ∀ r, r ∈ M ↔ r ∈ L := by
  refine ⟨?_, fun r => h.perm.mem_iff⟩
  have hnM : (M.map Rs.key).Nodup := (h.perm.map _).nodup_iff.2 hn
  have h2 : M.Pairwise (fun a b => a.key ≠ b.key) := by
    rw [List.Nodup, List.pairwise_map] at hnM
    exact hnM
  have := h.ord.and h2
  refine this.imp fun {a b} hab => ?_
  rcases klt_total hab.2 with h | h
  · exact h
  · exact absurd h hab.1
/-- sorted, or put in one by one: the same -/
theorem sort_fold {L M : List Rs} (h : SortP L M) (hn : (L.map Rs.key).Nodup) : M = foldP L := by
  obtain ⟨a1, a2⟩ := h.spec hn
  obtain ⟨b1, b2⟩ := foldP_spec hn
  exact KS.ext a1 b1 (fun r => by rw [a2, b2])
def delR (r : Rs) : Rs := ⟨r.kd, r.nm, [], [], ⟨#[]⟩, [], ⟨#[]⟩, true⟩
theorem delR_key (r : Rs) : (delR r).key = r.key := rfl
/-- whether the one at i is gone -/
def goneB (F T : List Rs) (i : Nat) (r : Rs) : Bool := decide (firstsF F r.key = some i) && decide (firstsF T r.key = none)
/-- whether the one at i is new, or another -/
def newB (sb : Rs → Rs → Bool) (F T : List Rs) (i : Nat) (r : Rs) : Bool := decide (firstsF T r.key = some i) && !(match firstsF F r.key with | none => false | some j => match F[j]? with | some q => sb q r | none => false)
def delsL (F T : List Rs) (i : Nat) : List Rs := (List.range i).filterMap fun j => match F[j]? with | some r => if goneB F T j r = true then some (delR r) else none | none => none
def newsL (sb : Rs → Rs → Bool) (F T : List Rs) (i : Nat) : List Rs := (List.range i).filterMap fun j => match T[j]? with | some r => if newB sb F T j r = true then some r else none | none => none
theorem delsL_step {F T : List Rs} {i : Nat} {r : Rs} (h : F[i]? = some r) : delsL F T (i + 1) = delsL F T i ++ (if goneB F T i r = true then [delR r] else []) := by
  unfold delsL
  rw [List.range_succ, List.filterMap_append]
  by_cases hg : goneB F T i r = true <;> simp [h, hg]
theorem newsL_step {sb : Rs → Rs → Bool} {F T : List Rs} {i : Nat} {r : Rs} (h : T[i]? = some r) : newsL sb F T (i + 1) = newsL sb F T i ++ (if newB sb F T i r = true then [r] else []) := by
  unfold newsL
  rw [List.range_succ, List.filterMap_append]
  by_cases hg : newB sb F T i r = true <;> simp [h, hg]
theorem delsL_len (F T : List Rs) (i : Nat) : (delsL F T i).length ≤ i := by
  unfold delsL; exact Nat.le_trans (List.length_filterMap_le _ _) (by simp)
theorem newsL_len (sb : Rs → Rs → Bool) (F T : List Rs) (i : Nat) : (newsL sb F T i).length ≤ i := by
  unfold newsL; exact Nat.le_trans (List.length_filterMap_le _ _) (by simp)
theorem delsL_spec {F T : List Rs} {i : Nat} {x : Rs} (h : x ∈ delsL F T i) : ∃ j r, j < i ∧ F[j]? = some r ∧ firstsF F r.key = some j ∧ firstsF T r.key = none ∧ x = delR r := by
  unfold delsL at h
  obtain ⟨j, hj, hx⟩ := List.mem_filterMap.1 h
  rcases hF : F[j]? with _ | r
  · rw [hF] at hx; cases hx
  · rw [hF] at hx
    dsimp only at hx
    by_cases hg : goneB F T j r = true
    · rw [if_pos hg] at hx
      unfold goneB at hg
      simp at hg
      cases hx
      exact ⟨j, r, by simpa using hj, hF, hg.1, hg.2, rfl⟩
    · rw [if_neg hg] at hx; cases hx
theorem newsL_spec {sb : Rs → Rs → Bool} {F T : List Rs} {i : Nat} {x : Rs} (h : x ∈ newsL sb F T i) : ∃ j, j < i ∧ T[j]? = some x ∧ firstsF T x.key = some j := by
  unfold newsL at h
  obtain ⟨j, hj, hx⟩ := List.mem_filterMap.1 h
  rcases hF : T[j]? with _ | r
  · rw [hF] at hx; cases hx
  · rw [hF] at hx
    dsimp only at hx
    by_cases hg : newB sb F T j r = true
    · rw [if_pos hg] at hx
      unfold newB at hg
      rw [Bool.and_eq_true, decide_eq_true_iff] at hg
      cases hx
      exact ⟨j, by simpa using hj, hF, hg.1⟩
    · rw [if_neg hg] at hx; cases hx
theorem dels_nodup (F T : List Rs) (i : Nat) : ((delsL F T i).map Rs.key).Nodup := by
  induction i with
  | zero => simp [delsL]
  | succ i ih =>
    rcases hF : F[i]? with _ | r
    · have : delsL F T (i + 1) = delsL F T i := by
        unfold delsL; rw [List.range_succ, List.filterMap_append]; simp [hF]
      rw [this]; exact ih
    · rw [delsL_step hF]
      by_cases hg : goneB F T i r = true
      · rw [if_pos hg, List.map_append, List.nodup_append]
        refine ⟨ih, by simp, fun a ha b hb => ?_⟩
        simp at hb
        obtain ⟨x, hx, rfl⟩ := List.mem_map.1 ha
        obtain ⟨j, q, hj, _, hf, _, rfl⟩ := delsL_spec hx
        intro e
        have hg' : firstsF F r.key = some i := by unfold goneB at hg; simp at hg; exact hg.1
        rw [delR_key] at e
        rw [hb] at e
        rw [show (delR r).key = r.key from rfl] at e
        rw [e] at hf
        rw [hg'] at hf
        cases hf; omega
      · rw [if_neg hg, List.append_nil]; exact ih
theorem news_nodup (sb : Rs → Rs → Bool) (F T : List Rs) (i : Nat) : ((newsL sb F T i).map Rs.key).Nodup := by
  induction i with
  | zero => simp [newsL]
  | succ i ih =>
    rcases hF : T[i]? with _ | r
    · have : newsL sb F T (i + 1) = newsL sb F T i := by
        unfold newsL; rw [List.range_succ, List.filterMap_append]; simp [hF]
      rw [this]; exact ih
    · rw [newsL_step hF]
      by_cases hg : newB sb F T i r = true
      · rw [if_pos hg, List.map_append, List.nodup_append]
        refine ⟨ih, by simp, fun a ha b hb => ?_⟩
        simp at hb
        obtain ⟨x, hx, rfl⟩ := List.mem_map.1 ha
        obtain ⟨j, hj, _, hf⟩ := newsL_spec hx
        intro e
        have hg' : firstsF T r.key = some i := by unfold newB at hg; rw [Bool.and_eq_true, decide_eq_true_iff] at hg; exact hg.1
        rw [hb] at e
        rw [e, hg'] at hf
        cases hf; omega
      · rw [if_neg hg, List.append_nil]; exact ih
theorem diff_nodup (sb : Rs → Rs → Bool) (F T : List Rs) (i j : Nat) : ((delsL F T i ++ newsL sb F T j).map Rs.key).Nodup := by
  rw [List.map_append, List.nodup_append]
  refine ⟨dels_nodup F T i, news_nodup sb F T j, fun a ha b hb => ?_⟩
  obtain ⟨x, hx, rfl⟩ := List.mem_map.1 ha
  obtain ⟨y, hy, rfl⟩ := List.mem_map.1 hb
  obtain ⟨k, q, _, _, _, hn, rfl⟩ := delsL_spec hx
  obtain ⟨l, _, _, hf⟩ := newsL_spec hy
  intro e
  rw [delR_key] at e
  rw [e, hf] at hn
  cases hn
end Go.Proofs.Ytmljljpldljpjab
