import Derived.Test.YtmmnpnhffgpchaaGreatDoorBn38
import Derived.Test.YtmmnpnhffgpchaaGreatDoorBuf
import Derived.Maps.OwnSet
import Derived.StringKeys
/-
  noKeys: whether no kid has a key.
-/
namespace Go.Proofs.YtmmnpnhffgpchaaGreatDoor
open Go.RowKit
set_option linter.unusedVariables false
set_option linter.unusedSimpArgs false
set_option maxRecDepth 100000
theorem isEmpty_no {b : ByteArray} (hk : ¬ b = ByteArray.empty) : b.toList.isEmpty = false := by
  rw [Bool.eq_false_iff]
  intro hh
  have := ba_ne hk
  rw [List.isEmpty_iff.1 hh] at this
  simp [ByteArray.toList_eq] at this
theorem Nums.below {w w' : World} {a : Option Addr} {cs : List Int} (h : Nums w a cs) (hb : Below w.heap.size w w') : Nums w' a cs := by
  rcases h with h | ⟨x, hx, hc⟩
  · exact .inl h
  · exact .inr ⟨x, hx, fun j hj => cell_of_below hb (hc j hj)⟩
/-- no kid from the first on has a key, up to one -/
theorem keysOf_at {l : List Nx} {ks : List Int} {i k : Nat} {o : Nx} (hi : ks[i]? = some (k : Int)) (hk : l[k]? = some o) : (keysOf l ks)[i]? = some o.key := by
  simp [keysOf, hi, hk]
end Go.Proofs.YtmmnpnhffgpchaaGreatDoor

/-
  unlikeKeys: whether no two kids have the same key.
-/
namespace Go.Proofs.YtmmnpnhffgpchaaGreatDoor
open Go.RowKit
set_option linter.unusedVariables false
set_option linter.unusedSimpArgs false
set_option maxRecDepth 100000
def R0 : Value → Option (DataW Unit × List MemPlace) := fun _ => some (.nil, [])
def litK (b : ByteArray) : Lit := .string b.data.toList
theorem litK_inj {a b : ByteArray} (h : litK a = litK b) : a = b := by
  obtain ⟨x⟩ := a
  obtain ⟨y⟩ := b
  injection h with h
  exact congrArg ByteArray.mk (Array.toList_inj.1 h)
/-- the keys put into a map so far -/
structure KS (D : DataW Unit) (xs : List ByteArray) : Prop where
  tidy : Go.Maps.Tidy D
  has : ∀ b, Go.Maps.has D (litK b) = true ↔ b ∈ xs
  size : Go.Maps.size D = xs.length ↔ xs.Nodup
  le : Go.Maps.size D ≤ xs.length
theorem KS.nil : KS (.map []) [] := ⟨Go.Maps.tidy_empty, fun b => by simp [Go.Maps.has], by simp [Go.Maps.size], by simp [Go.Maps.size]⟩
theorem KS.put {D : DataW Unit} {xs : List ByteArray} (h : KS D xs) (b : ByteArray) : KS (D.put (litK b) .nil) (xs ++ [b]) := by
  have hs := Go.Maps.size_put (k := litK b) h.tidy (DataW.nil : DataW Unit)
  refine ⟨h.tidy.put (by trivial) _, fun c => ?_, ?_, ?_⟩
  · by_cases hc : c = b
    · subst hc
      have e := Go.Maps.has_put_same (k := litK c) h.tidy.isMap (by trivial) (DataW.nil : DataW Unit)
      simp [e]
    · rw [Go.Maps.has_put_other (fun e => hc (litK_inj e)), h.has]
      simp [hc]
  · rw [hs, List.length_append, List.nodup_append]
    by_cases hb : b ∈ xs
    · rw [if_pos ((h.has b).2 hb)]
      have := h.le
      constructor
      · intro e; simp at e; omega
      · rintro ⟨_, _, h3⟩; exact absurd rfl (h3 b hb b (by simp))
    · rw [if_neg (fun e => hb ((h.has b).1 e))]
      simp only [List.length_cons, List.length_nil, Nat.zero_add, Nat.add_right_cancel_iff, h.size]
      constructor
      · intro e
        refine ⟨e, by simp, fun c hc d hd => ?_⟩
        simp at hd; subst hd
        rintro rfl; exact hb hc
      · exact fun e => e.1
  · rw [hs, List.length_append]
    have := h.le
    split <;> simp <;> omega
theorem keysOf_snoc {l : List Nx} {ks : List Int} {i k : Nat} {o : Nx} (hi : ks[i]? = some (k : Int)) (hk : l[k]? = some o) : keysOf l (ks.take (i + 1)) = keysOf l (ks.take i) ++ [o.key] := by
  rw [List.take_add_one, hi, Option.toList_some]
  simp [keysOf, hk]
theorem grown_to {w wr w2 : World} {m : Nat} (h : Below w.heap.size w wr) (hg : wr.grownBy w2 (some m)) (hm : w.heap.size ≤ m) : Below w.heap.size w w2 := h.grown hg h.size (fun k hk => by cases hk; exact hm)
end Go.Proofs.YtmmnpnhffgpchaaGreatDoor

/-
  A tree, as the document has it; the tree of a number in a list of nodes; a tree in memory.
-/
namespace Go.Proofs.YtmmnpnhffgpchaaGreatDoor
open Go.RowKit
set_option linter.unusedVariables false
set_option linter.unusedSimpArgs false
inductive Tr where
  | node (kd : Int) (key tx : ByteArray) (quo : Bool) (ln : Int) (kids : List Tr)
def Tr.key : Tr → ByteArray
  | .node _ key _ _ _ _ => key
mutual
def Tr.high : Tr → Nat
  | .node _ _ _ _ _ kids => highs kids + 1
def highs : List Tr → Nat
  | [] => 0
  | t :: ts => max t.high (highs ts)
end
def kidsG (S : Nat → Option (Tr × Nat)) : List Int → Nat → List Tr → Option (List Tr × Nat)
  | [], q, acc => some (acc, q)
  | k :: ks, q, acc => if k = q then (match S q with | some (t, e) => kidsG S ks e (acc ++ [t]) | none => none) else none
def mkT (o : Nx) (ts : List Tr) : Tr := .node o.kd o.key o.tx o.quo o.ln ts
/-- the tree of a number, and the number behind it -/
def trT (l : List Nx) : Nat → Nat → Option (Tr × Nat)
  | 0, _ => none
  | f + 1, q => match l[q]? with
    | some o => if isN o = true then (match kidsG (trT l f) o.ks (q + 1) [] with | some (ts, e) => if keysOk l o = true then some (mkT o ts, e) else none | none => none) else none
    | none => none
theorem highs_snoc (ts : List Tr) (t : Tr) : highs (ts ++ [t]) = max (highs ts) t.high := by
  induction ts with
  | nil => simp [highs]
  | cons x ts ih => simp only [List.cons_append, highs, ih]; omega
theorem kids_high {S : Nat → Option (Nat × Nat)} {G : Nat → Option (Tr × Nat)} (h : ∀ q, S q = (G q).map fun (t, e) => (e, t.high)) : ∀ (ks : List Int) (q : Nat) (acc : List Tr), kidsT S ks q (highs acc) = (kidsG G ks q acc).map fun (ts, e) => (e, highs ts)
  | [], q, acc => rfl
  | k :: ks, q, acc => by
    rw [kidsT, kidsG]
    split
    · rw [h q]
      rcases G q with _ | ⟨t, e⟩
      · rfl
      · have := kids_high h ks e (acc ++ [t])
        rw [highs_snoc] at this
        exact this
    · rfl
theorem sub_tr (l : List Nx) : ∀ (f q : Nat), subT l f q = (trT l f q).map fun (t, e) => (e, t.high)
  | 0, q => rfl
  | f + 1, q => by
    rw [subT, trT]
    rcases l[q]? with _ | o
    · rfl
    · dsimp only
      split
      · have := kids_high (sub_tr l f) o.ks (q + 1) []
        rw [highs] at this
        rw [this]
        rcases kidsG (trT l f) o.ks (q + 1) [] with _ | ⟨ts, e⟩
        · rfl
        · dsimp only [Option.map]
          split <;> rfl
      · rfl
theorem trT_key {l : List Nx} {f q e : Nat} {t : Tr} (h : trT l f q = some (t, e)) : ∃ o, l[q]? = some o ∧ t.key = o.key := by
  cases f with
  | zero => cases h
  | succ f =>
    rw [trT] at h
    rcases ho : l[q]? with _ | o
    · rw [ho] at h; cases h
    · rw [ho] at h
      refine ⟨o, rfl, ?_⟩
      dsimp only at h
      split at h
      · split at h
        · split at h
          · cases h; rfl
          · cases h
        · cases h
      · cases h
theorem trT_at {l : List Nx} {f q : Nat} {o : Nx} (h : l[q]? = some o) (hi : isN o = true) : trT l (f + 1) q = (match kidsG (trT l f) o.ks (q + 1) [] with | some (ts, e) => if keysOk l o = true then some (mkT o ts, e) else none | none => none) := by
  simp only [trT, h, hi, if_true]
theorem trT_no {l : List Nx} {f q : Nat} {o : Nx} (h : l[q]? = some o) (hi : isN o = false) : trT l (f + 1) q = none := by simp [trT, h, hi]
theorem trT_out {l : List Nx} {f q : Nat} (h : l.length ≤ q) : trT l f q = none := by
  cases f with
  | zero => rfl
  | succ f => simp [trT, List.getElem?_eq_none h]
theorem trT_keys {l : List Nx} {f q : Nat} {o : Nx} (h : l[q]? = some o) (hk : keysOk l o = false) : trT l (f + 1) q = none := by
  rw [trT, h]
  dsimp only
  split
  · rcases kidsG (trT l f) o.ks (q + 1) [] with _ | ⟨ts, e⟩
    · rfl
    · simp [hk]
  · rfl
theorem kidsG_cons {S : Nat → Option (Tr × Nat)} {ks : List Int} {i q : Nat} {k : Int} {acc : List Tr} (hi : ks[i]? = some k) : kidsG S (ks.drop i) q acc = if k = q then (match S q with | some (t, e) => kidsG S (ks.drop (i + 1)) e (acc ++ [t]) | none => none) else none := by
  obtain ⟨hl, he⟩ := List.getElem?_eq_some_iff.1 hi
  rw [List.drop_eq_getElem_cons hl, he, kidsG]
theorem kidsG_end {S : Nat → Option (Tr × Nat)} {ks : List Int} {i q : Nat} {acc : List Tr} (hi : ks.length ≤ i) : kidsG S (ks.drop i) q acc = some (acc, q) := by
  rw [List.drop_eq_nil_of_le hi, kidsG]
theorem trT_in {l : List Nx} {f q e : Nat} {t : Tr} (h : trT l f q = some (t, e)) : q < e ∧ e ≤ l.length ∧ t.high ≤ f := by
  have hs := sub_tr l f q
  rw [h] at hs
  exact subT_in f q e t.high hs
def ptrs (ps : List Nat) : List Value := ps.map fun p => .pointer (some ⟨p, 0, none⟩)
mutual
/-- a tree in memory: its blocks are among F -/
def TrIn (w : World) (F : Nat → Prop) : Tr → Nat → Prop
  | .node kd key tx quo ln kids, p => F p ∧ key.size ≤ maxLen ∧ ∃ v ps, w.heap[p]? = some (.cells #[.int .i64 kd, .string key, .string tx, .bool quo, .int .i64 ln, v] 95 (0, 0)) ∧ (∀ r, v.ownBlock = some r → F r) ∧ w.ownsRow 0 62 1 v kids.length (ptrs ps) ∧ TrsIn w (fun k => F k ∧ k ≠ p) kids ps
def TrsIn (w : World) (F : Nat → Prop) : List Tr → List Nat → Prop
  | [], ps => ps = []
  | t :: ts, ps => ∃ p qs, ps = p :: qs ∧ TrIn w F t p ∧ TrsIn w F ts qs
end
mutual
theorem TrIn.turn {w w' : World} {F F' : Nat → Prop} (hF : ∀ k, F k → F' k) (hw : ∀ k, F k → w'.heap[k]? = w.heap[k]?) : ∀ (t : Tr) (p : Nat), TrIn w F t p → TrIn w' F' t p
  | .node kd key tx quo ln kids, p, h => by
    rw [TrIn] at h ⊢
    obtain ⟨h1, h2, v, ps, h3, h4, h5, h6⟩ := h
    exact ⟨hF _ h1, h2, v, ps, (hw _ h1).trans h3, fun r hr => hF _ (h4 r hr), own_block h5 (fun k hk => hw k (h4 k hk)), TrsIn.turn (F := fun k => F k ∧ k ≠ p) (F' := fun k => F' k ∧ k ≠ p) (fun k hk => ⟨hF _ hk.1, hk.2⟩) (fun k hk => hw k hk.1) kids ps h6⟩
theorem TrsIn.turn {w w' : World} {F F' : Nat → Prop} (hF : ∀ k, F k → F' k) (hw : ∀ k, F k → w'.heap[k]? = w.heap[k]?) : ∀ (ts : List Tr) (ps : List Nat), TrsIn w F ts ps → TrsIn w' F' ts ps
  | [], ps, h => by rw [TrsIn] at h ⊢; exact h
  | t :: ts, ps, h => by
    rw [TrsIn] at h ⊢
    obtain ⟨p, qs, h1, h2, h3⟩ := h
    exact ⟨p, qs, h1, TrIn.turn hF hw t p h2, TrsIn.turn hF hw ts qs h3⟩
end
theorem TrsIn.length {w : World} {F : Nat → Prop} : ∀ {ts : List Tr} {ps : List Nat}, TrsIn w F ts ps → ps.length = ts.length
  | [], ps, h => by rw [TrsIn] at h; subst h; rfl
  | t :: ts, ps, h => by
    rw [TrsIn] at h
    obtain ⟨p, qs, rfl, _, h3⟩ := h
    simp [TrsIn.length h3]
theorem TrsIn.snoc {w : World} {F : Nat → Prop} {t : Tr} {p : Nat} (ht : TrIn w F t p) : ∀ {ts : List Tr} {ps : List Nat}, TrsIn w F ts ps → TrsIn w F (ts ++ [t]) (ps ++ [p])
  | [], ps, h => by
    rw [TrsIn] at h; subst h
    show TrsIn w F [t] [p]
    rw [TrsIn]
    exact ⟨p, [], rfl, ht, by rw [TrsIn]⟩
  | x :: ts, ps, h => by
    rw [TrsIn] at h
    obtain ⟨q, qs, rfl, h2, h3⟩ := h
    show TrsIn w F (x :: (ts ++ [t])) (q :: (qs ++ [p]))
    rw [TrsIn]
    exact ⟨q, qs ++ [p], rfl, h2, TrsIn.snoc ht h3⟩
theorem TrsIn.at_ {w : World} {F : Nat → Prop} : ∀ {ts : List Tr} {ps : List Nat}, TrsIn w F ts ps → ∀ {j : Nat} {t : Tr}, ts[j]? = some t → ∃ p, ps[j]? = some p ∧ TrIn w F t p
  | [], ps, h, j, t, ht => by simp at ht
  | x :: ts, ps, h, 0, t, ht => by
    rw [TrsIn] at h
    obtain ⟨q, qs, rfl, h2, h3⟩ := h
    simp at ht; subst ht
    exact ⟨q, rfl, h2⟩
  | x :: ts, ps, h, j + 1, t, ht => by
    rw [TrsIn] at h
    obtain ⟨q, qs, rfl, h2, h3⟩ := h
    obtain ⟨p, hp, hh⟩ := TrsIn.at_ h3 (j := j) (by simpa using ht)
    exact ⟨p, by simpa using hp, hh⟩
theorem TrIn.cells {w : World} {F : Nat → Prop} {t : Tr} {p : Nat} (h : TrIn w F t p) : w.cell? ⟨p, 1, none⟩ = some (.string t.key) ∧ t.key.size ≤ maxLen ∧ F p := by
  obtain ⟨kd, key, tx, quo, ln, kids⟩ := t
  rw [TrIn] at h
  obtain ⟨h1, h2, v, ps, h3, _⟩ := h
  refine ⟨?_, h2, h1⟩
  rw [cell_block h3]; rfl
theorem ptrs_at {ps : List Nat} {j p : Nat} (h : ps[j]? = some p) : (ptrs ps)[j]? = some (.pointer (some ⟨p, 0, none⟩)) := by simp [ptrs, h]
end Go.Proofs.YtmmnpnhffgpchaaGreatDoor
