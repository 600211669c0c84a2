/-
  A part of a tree is a tree; a tree's nodes are the list's own.
-/
import Derived.Test.YtgododijnogegaaFl
import Derived.Test.YtgododijnogegaaEnd
namespace Go.Proofs.Ytgododijnogegaa
open Go.RowKit
set_option linter.unusedVariables false
set_option linter.unusedSimpArgs false
theorem kidsG_mono {S S' : Nat → Option (Tr × Nat)} (h : ∀ q r, S q = some r → S' q = some r) : ∀ (ks : List Int) (q : Nat) (acc : List Tr) (x : List Tr × Nat), kidsG S ks q acc = some x → kidsG S' ks q acc = some x
  | [], q, acc, x, hx => hx
  | k :: ks, q, acc, x, hx => by
    rw [kidsG] at hx ⊢
    split at hx
    · rename_i hk
      rw [if_pos hk]
      rcases hs : S q with _ | ⟨t, e⟩
      · rw [hs] at hx; cases hx
      · rw [hs] at hx
        rw [h q _ hs]
        exact kidsG_mono h ks e _ x hx
    · cases hx
theorem trT_mono1 {l : List Nx} : ∀ (f q : Nat) (r : Tr × Nat), trT l f q = some r → trT l (f + 1) q = some r
  | 0, q, r, h => by cases h
  | f + 1, q, r, h => by
    rw [trT] at h ⊢
    rcases ho : l[q]? with _ | o
    · rw [ho] at h; cases h
    · rw [ho] at h
      dsimp only at h ⊢
      split at h
      · rename_i hi
        rw [if_pos hi]
        rcases hk : kidsG (trT l f) o.ks (q + 1) [] with _ | x
        · rw [hk] at h; cases h
        · rw [hk] at h
          rw [kidsG_mono (fun q r => trT_mono1 f q r) _ _ _ _ hk]
          exact h
      · cases h
theorem trT_mono {l : List Nx} {f g q : Nat} {r : Tr × Nat} (h : trT l f q = some r) (hg : f ≤ g) : trT l g q = some r := by
  induction g with
  | zero => obtain rfl : f = 0 := by omega
            exact h
  | succ g ih =>
    by_cases hfg : f = g + 1
    · subst hfg; exact h
    · exact trT_mono1 g q r (ih (by omega))
theorem trT_part {l : List Nx} : ∀ (f q e : Nat) (t : Tr), trT l f q = some (t, e) → ∀ q', q ≤ q' → q' < e → ∃ r, trT l f q' = some r := by
  intro f
  induction f with
  | zero => intro q e t h; cases h
  | succ f ih =>
    intro q e t h q' h1 h2
    by_cases hq : q' = q
    · subst hq; exact ⟨_, h⟩
    · rw [trT] at h
      rcases ho : l[q]? with _ | o
      · rw [ho] at h; cases h
      · rw [ho] at h
        dsimp only at h
        split at h
        · rcases hk : kidsG (trT l f) o.ks (q + 1) [] with _ | ⟨ts, e'⟩
          · rw [hk] at h; cases h
          · rw [hk] at h
            dsimp only at h
            split at h
            · cases h
              have kids : ∀ (ks : List Int) (p : Nat) (acc : List Tr) (x : List Tr), p ≤ q' → kidsG (trT l f) ks p acc = some (x, e) → ∃ r, trT l f q' = some r := by
                intro ks
                induction ks with
                | nil => intro p acc x hp hx; simp only [kidsG, Option.some.injEq, Prod.mk.injEq] at hx; omega
                | cons k ks ihk =>
                  intro p acc x hp hx
                  rw [kidsG] at hx
                  split at hx
                  · rcases hs : trT l f p with _ | ⟨t1, e1⟩
                    · rw [hs] at hx; cases hx
                    · rw [hs] at hx
                      by_cases h3 : q' < e1
                      · exact ih p e1 t1 hs q' hp h3
                      · exact ihk e1 _ x (by omega) hx
                  · cases hx
              obtain ⟨r, hr⟩ := kids o.ks (q + 1) [] ts (by omega) hk
              exact ⟨r, trT_mono1 f q' r hr⟩
            · cases h
        · cases h
theorem whole_part {l : List Nx} {t : Tr} (h : Whole l t) {q : Nat} (hq : q < l.length) : ∃ t' e, trT l 16 q = some (t', e) := by
  obtain ⟨r, hr⟩ := trT_part 16 0 _ t h.2.1 q (by omega) hq
  exact ⟨r.1, r.2, hr⟩
/-- what a tree says is what its list says, from its number on -/
theorem trT_flat {l : List Nx} : ∀ (f q e : Nat) (t : Tr), trT l f q = some (t, e) → e = q + t.size ∧ t.flat q = ((l.drop q).take (e - q)).map Nx.nd := by
  intro f
  induction f with
  | zero => intro q e t h; cases h
  | succ f ih =>
    intro q e t h
    rw [trT] at h
    rcases ho : l[q]? with _ | o
    · rw [ho] at h; cases h
    · rw [ho] at h
      dsimp only at h
      split at h
      · rcases hk : kidsG (trT l f) o.ks (q + 1) [] with _ | ⟨ts, e'⟩
        · rw [hk] at h; cases h
        · rw [hk] at h
          dsimp only at h
          split at h
          · cases h
            have kids : ∀ (ks : List Int) (p : Nat) (acc x : List Tr), kidsG (trT l f) ks p acc = some (x, e) → ∃ ts2, x = acc ++ ts2 ∧ ks = starts ts2 p ∧ e = p + sizes ts2 ∧ flats ts2 p = ((l.drop p).take (e - p)).map Nx.nd := by
              intro ks
              induction ks with
              | nil =>
                intro p acc x hx
                simp only [kidsG, Option.some.injEq, Prod.mk.injEq] at hx
                obtain ⟨rfl, rfl⟩ := hx
                exact ⟨[], by simp, rfl, by simp [sizes], by simp [flats]⟩
              | cons k ks ihk =>
                intro p acc x hx
                rw [kidsG] at hx
                split at hx
                · rename_i hkp
                  rcases hs : trT l f p with _ | ⟨t1, e1⟩
                  · rw [hs] at hx; cases hx
                  · rw [hs] at hx
                    obtain ⟨ts2, h1, h2, h3, h4⟩ := ihk e1 _ x hx
                    obtain ⟨h5, h6⟩ := ih p e1 t1 hs
                    refine ⟨t1 :: ts2, by rw [h1]; simp, ?_, ?_, ?_⟩
                    · rw [starts, ← h5, ← h2, hkp]
                    · rw [sizes]; omega
                    · rw [flats, h6, ← h5, h4, ← List.map_append]
                      congr 1
                      have e2 : e - p = (e1 - p) + (e - e1) := by omega
                      rw [e2, List.take_add, List.drop_drop]
                      congr 3
                      omega
                · cases hx
            obtain ⟨ts2, h1, h2, h3, h4⟩ := kids o.ks (q + 1) [] ts hk
            rw [List.nil_append] at h1
            subst h1
            refine ⟨by rw [mkT, Tr.size]; omega, ?_⟩
            rw [mkT, Tr.flat, h4, ← h2]
            have hq := (List.getElem?_eq_some_iff.1 ho)
            have e2 : e - q = (e - (q + 1)) + 1 := by omega
            rw [e2, List.drop_eq_getElem_cons hq.1, hq.2, List.take_succ_cons, List.map_cons]
            rfl
          · cases h
      · cases h
/-- a node as it is when its list begins so many nodes later -/
def Nd.less (d : Int) (n : Nd) : Nd := { n with ks := n.ks.map (· - d) }
theorem starts_shift (ts : List Tr) (q d : Nat) : (starts ts (q + d)).map (· - (d : Int)) = starts ts q := by
  induction ts generalizing q with
  | nil => rfl
  | cons t ts ih =>
    have := ih (q + t.size)
    rw [starts, starts, List.map_cons]
    rw [show q + d + t.size = q + t.size + d by omega, this]
    congr 1
    omega
mutual
theorem flat_shift : ∀ (t : Tr) (q d : Nat), (t.flat (q + d)).map (Nd.less d) = t.flat q
  | .node kd key tx quo ln kids, q, d => by
    rw [Tr.flat, Tr.flat, List.map_cons]
    have h1 := flats_shift kids (q + 1) d
    rw [show q + d + 1 = q + 1 + d by omega, h1]
    simp only [Nd.less, starts_shift]
theorem flats_shift : ∀ (ts : List Tr) (q d : Nat), (flats ts (q + d)).map (Nd.less d) = flats ts q
  | [], q, d => by rw [flats, flats]; rfl
  | t :: ts, q, d => by
    rw [flats, flats, List.map_append, flat_shift t q d]
    have h1 := flats_shift ts (q + t.size) d
    rw [show q + d + t.size = q + t.size + d by omega, h1]
end
/-- a tree whose root has no key -/
def Tr.bare : Tr → Tr
  | .node kd _ tx quo ln kids => .node kd ByteArray.empty tx quo ln kids
def Nd.bare (n : Nd) : Nd := { n with key := ByteArray.empty }
def bareHd : List Nd → List Nd
  | [] => []
  | n :: l => n.bare :: l
theorem bare_flat (t : Tr) (q : Nat) : t.bare.flat q = bareHd (t.flat q) := by
  obtain ⟨kd, key, tx, quo, ln, kids⟩ := t
  rw [Tr.bare, Tr.flat, Tr.flat]; rfl
theorem bare_size (t : Tr) : t.bare.size = t.size := by
  obtain ⟨kd, key, tx, quo, ln, kids⟩ := t
  rw [Tr.bare, Tr.size, Tr.size]
theorem bare_high (t : Tr) : t.bare.high = t.high := by
  obtain ⟨kd, key, tx, quo, ln, kids⟩ := t
  rw [Tr.bare, Tr.high, Tr.high]
/-- the part of a list of nodes: from q up to e, moved, its first node without a key -/
def partL (l : List Nx) (q e : Nat) : List Nd := bareHd ((((l.drop q).take (e - q)).map Nx.nd).map (Nd.less q))
theorem part_flat {l : List Nx} {f q e : Nat} {t : Tr} (h : trT l f q = some (t, e)) : t.bare.flat 0 = partL l q e := by
  obtain ⟨h1, h2⟩ := trT_flat f q e t h
  rw [bare_flat, partL, ← h2]
  have := flat_shift t 0 q
  rw [Nat.zero_add] at this
  rw [this]
/-- down the last kids: from a tree's number to the number behind it -/
theorem trT_ends {l : List Nx} : ∀ (f q e : Nat) (t : Tr), trT l f q = some (t, e) → Ends l q e := by
  intro f
  induction f with
  | zero => intro q e t h; cases h
  | succ f ih =>
    intro q e t h
    rw [trT] at h
    rcases ho : l[q]? with _ | o
    · rw [ho] at h; cases h
    · rw [ho] at h
      dsimp only at h
      split at h
      · rcases hk : kidsG (trT l f) o.ks (q + 1) [] with _ | ⟨ts, e'⟩
        · rw [hk] at h; cases h
        · rw [hk] at h
          dsimp only at h
          split at h
          · cases h
            by_cases h0 : o.ks = []
            · rw [h0, kidsG] at hk
              simp only [Option.some.injEq, Prod.mk.injEq] at hk
              rw [← hk.2]
              exact .leaf ho h0
            · have kids : ∀ (ks : List Int) (p : Nat) (acc x : List Tr), ks ≠ [] → kidsG (trT l f) ks p acc = some (x, e) → ∃ (k : Nat) (t1 : Tr), p ≤ k ∧ ks[ks.length - 1]? = some (k : Int) ∧ trT l f k = some (t1, e) := by
                intro ks
                induction ks with
                | nil => intro p acc x hne hx; exact absurd rfl hne
                | cons k ks ihk =>
                  intro p acc x hne hx
                  rw [kidsG] at hx
                  split at hx
                  · rename_i hkp
                    rcases hs : trT l f p with _ | ⟨t1, e1⟩
                    · rw [hs] at hx; cases hx
                    · rw [hs] at hx
                      by_cases hks : ks = []
                      · subst hks
                        simp only [kidsG, Option.some.injEq, Prod.mk.injEq] at hx
                        obtain ⟨_, rfl⟩ := hx
                        exact ⟨p, t1, Nat.le_refl _, by simp [hkp], hs⟩
                      · obtain ⟨k2, t2, h1, h2, h3⟩ := ihk e1 _ x hks hx
                        have hle := (trT_in hs).1
                        refine ⟨k2, t2, by omega, ?_, h3⟩
                        have hl : 0 < ks.length := List.length_pos_iff.2 hks
                        rw [List.length_cons, show ks.length + 1 - 1 = (ks.length - 1) + 1 by omega, List.getElem?_cons_succ]
                        exact h2
                  · cases hx
              obtain ⟨k, t1, h1, h2, h3⟩ := kids o.ks (q + 1) [] ts h0 hk
              exact .down ho h2 (by omega) (ih k e t1 h3)
          · cases h
      · cases h
end Go.Proofs.Ytgododijnogegaa
