/- What RegistryPicks reckons, plain. -/
import Derived.Test.YtidpglbokpgpbaaOw
namespace Go.Proofs.Ytidpglbokpgpbaa
open Go.RowKit
set_option linter.unusedVariables false
set_option linter.unusedSimpArgs false
/-- the endpoints that are healthy, each at its first place -/
noncomputable def wantF (hl : ByteArray → Bool) (l : List ByteArray) : List ByteArray := (uniq l).filter hl
theorem want_mem {hl : ByteArray → Bool} {l : List ByteArray} {s : ByteArray} : s ∈ wantF hl l ↔ s ∈ l ∧ hl s = true := by
  unfold wantF; rw [List.mem_filter, uniq_mem]
theorem want_there {hl : ByteArray → Bool} {L : List ByteArray} {k : Nat} {s : ByteArray} (h : L[k]? = some s) (hm : s ∈ wantF hl (L.take k)) : wantF hl (L.take (k + 1)) = wantF hl (L.take k) := by
  unfold wantF
  rw [uniq_old h (want_mem.1 hm).1]
theorem want_new {hl : ByteArray → Bool} {L : List ByteArray} {k : Nat} {s : ByteArray} (h : L[k]? = some s) (hm : s ∉ wantF hl (L.take k)) (hs : hl s = true) : wantF hl (L.take (k + 1)) = wantF hl (L.take k) ++ [s] := by
  unfold wantF
  rw [uniq_new h (fun g => hm (want_mem.2 ⟨g, hs⟩)), List.filter_append]
  simp [hs]
theorem want_no {hl : ByteArray → Bool} {L : List ByteArray} {k : Nat} {s : ByteArray} (h : L[k]? = some s) (hs : hl s = false) : wantF hl (L.take (k + 1)) = wantF hl (L.take k) := by
  by_cases hm : s ∈ L.take k
  · unfold wantF; rw [uniq_old h hm]
  · unfold wantF
    rw [uniq_new h hm, List.filter_append]
    simp [hs]
theorem want_len (hl : ByteArray → Bool) (l : List ByteArray) : (wantF hl l).length ≤ l.length := Nat.le_trans (List.length_filter_le _ _) (uniq_len l)
theorem picks_plain {Ls : List Rs} {r : Rg} {os : List Hx} (hp : (sayL r.ss).Perm (svcF Ls)) (hs : Srt (sayL r.ss)) (hv : sayL os = r.vwF) :
    (∀ x ∈ Ls, x.kd = 1 → ∃ (j : Nat) (o : Hx), os[j]? = some o ∧ o.sv = x.nm ∧ o.eps = wantF r.hl x.eps) ∧ os.length = (Ls.filter (fun r => decide (r.kd = 1))).length ∧ Srt (sayL os) := by
  rw [vwF_say] at hv
  refine ⟨fun x hx hk => ?_, ?_, ?_⟩
  · have h1 : (x.nm, uniq x.eps) ∈ svcF Ls := List.mem_map.2 ⟨x, List.mem_filter.2 ⟨hx, by simp [hk]⟩, rfl⟩
    have h2 := hp.mem_iff.2 h1
    have h3 : (x.nm, wantF r.hl x.eps) ∈ sayL os := by rw [hv]; exact List.mem_map.2 ⟨_, h2, rfl⟩
    obtain ⟨o, ho, he⟩ := List.mem_map.1 h3
    obtain ⟨j, hj⟩ := List.getElem?_of_mem ho
    exact ⟨j, o, hj, congrArg Prod.fst he, congrArg Prod.snd he⟩
  · have h1 := congrArg List.length hv
    have h2 := hp.length_eq
    unfold sayL svcF at *
    simp only [List.length_map] at h1 h2
    omega
  · rw [hv]
    unfold Srt
    rw [List.pairwise_map]
    exact hs
def cntF (L : List Rx) (i : Nat) : Nat := ((L.take i).filter (fun o => decide (o.kd = 1))).length
theorem cnt_one {L : List Rx} {i : Nat} {o : Rx} (h : L[i]? = some o) (hk : o.kd = 1) : cntF L (i + 1) = cntF L i + 1 := by
  unfold cntF; rw [take_snoc h, List.filter_append]; simp [hk]
theorem cnt_no {L : List Rx} {i : Nat} {o : Rx} (h : L[i]? = some o) (hk : o.kd ≠ 1) : cntF L (i + 1) = cntF L i := by
  unfold cntF; rw [take_snoc h, List.filter_append]; simp [hk]
theorem cnt_le (L : List Rx) (i : Nat) : cntF L i ≤ i := by
  unfold cntF
  refine Nat.le_trans (List.length_filter_le _ _) ?_
  rw [List.length_take]; exact Nat.min_le_left _ _
theorem cnt_all (L : List Rx) {i : Nat} (h : L.length ≤ i) : cntF L i = ((L.map Rx.toRs).filter (fun r => decide (r.kd = 1))).length := by
  unfold cntF
  rw [List.take_of_length_le h, List.filter_map, List.length_map]
  rfl
theorem bool_of (p : Prop) : ∃ t : Bool, t = true ↔ p := by
  by_cases h : p
  · exact ⟨true, by simp [h]⟩
  · exact ⟨false, by simp [h]⟩
theorem Tells.fix {e : Ending} {p : Prop} {t : Bool} (h : Tells e p) (ht : t = true ↔ p) : e = .returned (.bool t) := by
  obtain ⟨b, rfl, hb⟩ := h
  have : b = t := by rw [Bool.eq_iff_iff]; exact hb.trans ht.symm
  rw [this]
theorem srt_at {l : List Hx} (h : Srt (sayL l)) {k : Nat} {p q : Hx} (h1 : l[k]? = some p) (h2 : l[k + 1]? = some q) : sless p.sv q.sv = true := by
  unfold Srt sayL at h
  rw [List.pairwise_map, List.pairwise_iff_getElem] at h
  obtain ⟨l1, e1⟩ := List.getElem?_eq_some_iff.1 h1
  obtain ⟨l2, e2⟩ := List.getElem?_eq_some_iff.1 h2
  have := h k (k + 1) l1 l2 (by omega)
  rw [e1, e2] at this
  exact this
end Go.Proofs.Ytidpglbokpgpbaa
