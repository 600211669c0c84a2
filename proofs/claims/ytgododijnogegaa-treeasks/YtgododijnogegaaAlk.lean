/-
  Two lists of nodes that say the same are asked the same.
-/
import Derived.Test.YtgododijnogegaaTw
import Derived.Test.YtgododijnogegaaIn2
import Derived.Test.YtgododijnogegaaRget
namespace Go.Proofs.Ytgododijnogegaa
open Go.RowKit
set_option linter.unusedVariables false
set_option linter.unusedSimpArgs false
structure Alike (os l : List Nx) : Prop where
  nds : os.map Nx.nd = l.map Nx.nd
  n1 : ∀ o ∈ os, o.ks.length = o.n
  n2 : ∀ o ∈ l, o.ks.length = o.n
theorem Alike.len {os l : List Nx} (h : Alike os l) : os.length = l.length := by have := congrArg List.length h.nds; simpa using this
theorem Alike.at_ {os l : List Nx} (h : Alike os l) (i : Nat) : (os[i]? = none ∧ l[i]? = none) ∨ ∃ o p, os[i]? = some o ∧ l[i]? = some p ∧ Nsame o p ∧ o.n = p.n := by
  have h1 : (os.map Nx.nd)[i]? = (l.map Nx.nd)[i]? := by rw [h.nds]
  rw [List.getElem?_map, List.getElem?_map] at h1
  rcases ho : os[i]? with _ | o
  · rcases hp : l[i]? with _ | p
    · exact .inl ⟨rfl, rfl⟩
    · rw [ho, hp] at h1; cases h1
  · rcases hp : l[i]? with _ | p
    · rw [ho, hp] at h1; cases h1
    · rw [ho, hp] at h1
      simp at h1
      have hs := nd_same h1
      refine .inr ⟨o, p, rfl, rfl, hs, ?_⟩
      rw [← h.n1 o (List.mem_of_getElem? ho), ← h.n2 p (List.mem_of_getElem? hp), hs.ks]
theorem alk_hit {os l : List Nx} (h : Alike os l) (key : ByteArray) (k : Int) : hit os key k = hit l key k := by
  unfold hit
  rcases h.at_ k.toNat with ⟨h1, h2⟩ | ⟨o, p, h1, h2, h3, _⟩
  · rw [h1, h2]
  · rw [h1, h2]; simp only [h3.key]
theorem alk_getF {os l : List Nx} (h : Alike os l) (z : Int) (key : ByteArray) : getF os z key = getF l z key := by
  unfold getF
  have hh : hit os key = hit l key := funext ((alk_hit h key))
  rcases h.at_ z.toNat with ⟨h1, h2⟩ | ⟨o, p, h1, h2, h3, _⟩
  · rw [h1, h2]
  · rw [h1, h2]; simp only [h3.kd, h3.ks, hh]
theorem alk_isN {os l : List Nx} {o p : Nx} (h : Nsame o p) (hn : o.n = p.n) : isN o = isN p := by
  unfold isN
  rw [h.kd, h.ln, h.tx, h.quo, hn]
theorem alk_keys {os l : List Nx} (h : Alike os l) (ks : List Int) : keysOf os ks = keysOf l ks := by
  unfold keysOf
  apply List.map_congr_left
  intro k _
  rcases h.at_ k.toNat with ⟨h1, h2⟩ | ⟨o, p, h1, h2, h3, _⟩
  · rw [h1, h2]
  · rw [h1, h2]; simp [h3.key]
theorem alk_trT {os l : List Nx} (h : Alike os l) : ∀ (f : Nat), trT os f = trT l f
  | 0 => rfl
  | f + 1 => by
    funext q
    rw [trT, trT]
    rcases h.at_ q with ⟨h1, h2⟩ | ⟨o, p, h1, h2, h3, h4⟩
    · rw [h1, h2]
    · rw [h1, h2]
      have hk : keysOk os o = keysOk l p := by
        unfold keysOk
        rw [h3.kd, h3.ks, (alk_keys h)]
      have hm : mkT o = mkT p := by
        funext ts
        unfold mkT
        rw [h3.kd, h3.key, h3.tx, h3.quo, h3.ln]
      simp only [alk_isN (os := os) (l := l) h3 h4, (alk_trT h) f, h3.ks, hk, hm]
theorem alk_depF {os l : List Nx} (h : Alike os l) : depF os = depF l := by
  by_cases hd : 0 < depF l
  · obtain ⟨t, ht⟩ := dep_whole hd
    rw [whole_dep ht]
    exact whole_dep ⟨by rw [h.len]; exact ht.1, by rw [(alk_trT h), h.len]; exact ht.2.1, ht.2.2⟩
  · have h0 : depF l = 0 := by omega
    rw [h0]
    refine not_whole fun t ht => hd ?_
    have : Whole l t := ⟨by rw [← h.len]; exact ht.1, by rw [← (alk_trT h), ← h.len]; exact ht.2.1, ht.2.2⟩
    rw [whole_dep this]
    exact high_pos t
theorem alk_subF {os l : List Nx} (h : Alike os l) (z : Int) : subF os z = subF l z := by
  unfold subF
  rw [(alk_depF h), h.len, (alk_trT h)]
  have hp : ∀ q e, partL os q e = partL l q e := fun q e => by
    unfold partL
    rw [List.map_take, List.map_drop, h.nds, ← List.map_drop, ← List.map_take]
  split
  · rcases trT l 16 z.toNat with _ | ⟨t, e⟩
    · rfl
    · exact hp _ _
  · rfl
theorem Ns.low {w : World} {a : Option Addr} {l : List Nx} (h : Ns w a l) : Low w.heap.size a l := by
  refine ⟨fun x hx hne => ?_, fun o ho x hx h0 => ?_⟩
  · rcases h.row with h1 | ⟨g, off, ha, hc⟩
    · exact absurd h1 hne
    · rw [hx] at ha; cases ha
      rcases l with _ | ⟨o, l⟩
      · exact absurd rfl hne
      · have := World.block_lt_of_cell? w _ (hc 0 o rfl 0 _ rfl)
        exact this
  · rcases (h.each o ho).nums with ⟨_, h1⟩ | ⟨y, hy, hc⟩
    · rw [h1] at h0; simp at h0
    · rw [hx] at hy; cases hy
      have := World.block_lt_of_cell? w _ (hc 0 h0)
      rwa [add_block] at this
/-- the twin's nodes, as nodes -/
theorem Own.ns {w W : World} {a : Option Addr} {base g n c : Nat} {os l : List Nx} {m : Nx} (h : Own w base (.slice (some ⟨g, 0, none⟩) (n + 1) c) (os ++ [m])) (hl : os.length = n) (hd : os.map Nx.nd = l.map Nx.nd) (hS : Ns W a l) : Ns w (some ⟨g, 0, none⟩) os ∧ Alike os l ∧ (∀ (j : Nat) u, m.row[j]? = some u → w.cell? ⟨g, n * 6 + j, none⟩ = some u) := by
  have hw := h.nsw
  have hA : Alike os l := ⟨hd, fun o ho => (hw.each o (by simp [ho])).1, fun o ho => (hS.each o ho).len⟩
  have hrow : ∀ (i : Nat) (o : Nx), (os ++ [m])[i]? = some o → ∀ (j : Nat) (u : Value), o.row[j]? = some u → w.cell? ⟨g, i * 6 + j, none⟩ = some u := by
    rcases hw.row with h1 | ⟨g', off', ha, hc⟩
    · simp at h1
    · have hr := h.row
      rw [show (os ++ [m]).length = n + 1 by simp [hl]] at hr
      intro i o hi j u hu
      have hi' := (List.getElem?_eq_some_iff.1 hi).1
      have hj : j < 6 := (List.getElem?_eq_some_iff.1 hu).1
      simp [hl] at hi'
      rw [hr.cellAt (i * 6 + j) (by omega)]
      exact rowsN_at _ i o hi j u hu
  refine ⟨⟨fun o ho => ?_, ?_⟩, hA, fun j u hu => hrow n m (by rw [← hl]; simp) j u hu⟩
  · have h1 := hw.each o (by simp [ho])
    obtain ⟨i, hi⟩ := List.mem_iff_getElem?.1 ho
    rcases hA.at_ i with ⟨e1, _⟩ | ⟨o', p, e1, e2, e3, _⟩
    · rw [hi] at e1; cases e1
    · rw [hi] at e1; cases e1
      have hp := hS.each p (List.mem_of_getElem? e2)
      refine ⟨by rw [e3.key]; exact hp.s1, by rw [e3.tx]; exact hp.s2, h1.1, h1.2.1, by rw [e3.ks]; exact hp.rng, fun ha => ?_, h1.2.2⟩
      obtain ⟨a', cp, e, hb, _⟩ := own_form (h.kids o (by simp [ho])).1
      injection e with e4 _ e6
      rw [e6]; exact hb (e4 ▸ ha)
  · by_cases h0 : os = []
    · exact .inl h0
    · refine .inr ⟨g, 0, rfl, fun i o hi j u hu => ?_⟩
      rw [Nat.zero_add]
      have hi' := (List.getElem?_eq_some_iff.1 hi).1
      exact hrow i o (by rw [List.getElem?_append_left hi']; exact hi) j u hu
end Go.Proofs.Ytgododijnogegaa
