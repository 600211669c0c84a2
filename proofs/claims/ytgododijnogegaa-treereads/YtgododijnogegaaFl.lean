/-
  A tree laid out as a list; lists of nodes in memory of the call's own.
-/
import Derived.Test.YtgododijnogegaaRmd
namespace Go.Proofs.Ytgododijnogegaa
open Go.RowKit
set_option linter.unusedVariables false
set_option linter.unusedSimpArgs false
/-- what a node says -/
structure Nd where
  kd : Int
  key : ByteArray
  tx : ByteArray
  quo : Bool
  ln : Int
  ks : List Int
def Nx.nd (o : Nx) : Nd := ⟨o.kd, o.key, o.tx, o.quo, o.ln, o.ks⟩
mutual
def Tr.size : Tr → Nat
  | .node _ _ _ _ _ kids => sizes kids + 1
def sizes : List Tr → Nat
  | [] => 0
  | t :: ts => t.size + sizes ts
end
def starts : List Tr → Nat → List Int
  | [], _ => []
  | t :: ts, q => (q : Int) :: starts ts (q + t.size)
mutual
/-- a tree's nodes, from a number on -/
def Tr.flat : Tr → Nat → List Nd
  | .node kd key tx quo ln kids, q => ⟨kd, key, tx, quo, ln, starts kids (q + 1)⟩ :: flats kids (q + 1)
def flats : List Tr → Nat → List Nd
  | [], _ => []
  | t :: ts, q => t.flat q ++ flats ts (q + t.size)
end
mutual
theorem flat_length : ∀ (t : Tr) (q : Nat), (t.flat q).length = t.size
  | .node kd key tx quo ln kids, q => by rw [Tr.flat, Tr.size, List.length_cons, flats_length kids (q + 1)]
theorem flats_length : ∀ (ts : List Tr) (q : Nat), (flats ts q).length = sizes ts
  | [], q => by rw [flats, sizes]; rfl
  | t :: ts, q => by rw [flats, sizes, List.length_append, flat_length t q, flats_length ts]
end
theorem sizes_snoc (ts : List Tr) (t : Tr) : sizes (ts ++ [t]) = sizes ts + t.size := by
  induction ts with
  | nil => simp [sizes]
  | cons x ts ih => simp only [List.cons_append, sizes, ih]; omega
theorem flats_snoc (ts : List Tr) (t : Tr) (q : Nat) : flats (ts ++ [t]) q = flats ts q ++ t.flat (q + sizes ts) := by
  induction ts generalizing q with
  | nil => simp [flats, sizes]
  | cons x ts ih => simp only [List.cons_append, flats, ih, sizes, List.append_assoc, Nat.add_assoc]
theorem starts_snoc (ts : List Tr) (t : Tr) (q : Nat) : starts (ts ++ [t]) q = starts ts q ++ [((q + sizes ts : Nat) : Int)] := by
  induction ts generalizing q with
  | nil => simp [starts, sizes]
  | cons x ts ih => simp only [List.cons_append, starts, ih, sizes, Nat.add_assoc]
theorem starts_length (ts : List Tr) (q : Nat) : (starts ts q).length = ts.length := by
  induction ts generalizing q with
  | nil => rfl
  | cons x ts ih => simp [starts, ih]
def rowsN (os : List Nx) : List Value := os.flatMap Nx.row
def iV (ks : List Int) : List Value := ks.map (Value.int .i64)
abbrev Nx.kv (o : Nx) : Value := .slice o.a o.n o.cap
theorem rowsN_length (os : List Nx) : (rowsN os).length = os.length * 6 := by
  induction os with
  | nil => rfl
  | cons o os ih => simp only [rowsN, List.flatMap_cons, List.length_append, List.length_cons] at *; rw [ih]; simp [Nx.row]; omega
theorem rowsN_append (a b : List Nx) : rowsN (a ++ b) = rowsN a ++ rowsN b := by simp [rowsN]
theorem rowsN_at : ∀ (os : List Nx) (i : Nat) (o : Nx), os[i]? = some o → ∀ (j : Nat) (u : Value), o.row[j]? = some u → (rowsN os)[i * 6 + j]? = some u
  | [], i, o, h, j, u, hu => by simp at h
  | x :: os, 0, o, h, j, u, hu => by
    simp at h; subst h
    have hj := (List.getElem?_eq_some_iff.1 hu).1
    rw [Nat.zero_mul, Nat.zero_add]
    simp only [rowsN, List.flatMap_cons]
    rw [List.getElem?_append_left hj]; exact hu
  | x :: os, i + 1, o, h, j, u, hu => by
    have := rowsN_at os i o (by simpa using h) j u hu
    simp only [rowsN, List.flatMap_cons] at *
    have hx : x.row.length = 6 := rfl
    rw [List.getElem?_append_right (by rw [hx]; omega), hx]
    rw [show (i + 1) * 6 + j - 6 = i * 6 + j by omega]
    exact this
theorem row_one (o : Nx) : ∀ u ∈ o.row, u.oneCell' = true := by
  intro u hu
  simp [Nx.row] at hu
  rcases hu with rfl | rfl | rfl | rfl | rfl | rfl <;> rfl
theorem iV_one (ks : List Int) : ∀ u ∈ iV ks, u.oneCell' = true := by
  intro u hu
  obtain ⟨z, _, rfl⟩ := List.mem_map.1 hu
  rfl
/-- a list of nodes in memory of the call's own, the kids of each too -/
structure Own (w : World) (base : Nat) (v : Value) (os : List Nx) : Prop where
  row : w.ownsRow base 51 6 v os.length (rowsN os)
  kids : ∀ o ∈ os, w.ownsRow base 3 1 o.kv o.n (iV o.ks) ∧ o.n ≤ 17592186043904
/-- what nodes_same asks of a list -/
structure Nsw (W : World) (a : Option Addr) (os : List Nx) : Prop where
  each : ∀ o ∈ os, o.ks.length = o.n ∧ Nums W o.a o.ks ∧ o.n ≤ 17592186043904
  row : os = [] ∨ ∃ g off, a = some ⟨g, off, none⟩ ∧ ∀ (i : Nat) (o : Nx), os[i]? = some o → ∀ (j : Nat) (u : Value), o.row[j]? = some u → W.cell? ⟨g, off + i * 6 + j, none⟩ = some u
theorem Ns.nsw {W : World} {a : Option Addr} {os : List Nx} (h : Ns W a os) : Nsw W a os := ⟨fun o ho => ⟨(h.each o ho).len, (h.each o ho).nums, (h.each o ho).big⟩, h.row⟩
theorem own_len {w : World} {base n : Nat} {v : Value} {ks : List Int} (h : w.ownsRow base 3 1 v n (iV ks)) : ks.length = n := by have := h.1; simp [iV] at this; exact this
theorem own_nums {w : World} {base n cp : Nat} {a : Option Addr} {ks : List Int} (h : w.ownsRow base 3 1 (.slice a n cp) n (iV ks)) : Nums w a ks := by
  have hl := own_len h
  rcases h.2 with ⟨h1, h2⟩ | ⟨g, cp', cur, h1, _⟩
  · injection h1 with h1
    exact .inl ⟨h1, List.length_eq_zero_iff.1 (by omega)⟩
  · injection h1 with h1 _ h3
    subst h1
    refine .inr ⟨_, rfl, fun j hj => h.cells rfl j _ ?_⟩
    simp [iV, hj]
theorem Own.nsw {w : World} {base n cp : Nat} {a : Option Addr} {os : List Nx} (h : Own w base (.slice a n cp) os) : Nsw w a os := by
  refine ⟨fun o ho => ⟨own_len (h.kids o ho).1, own_nums (h.kids o ho).1, (h.kids o ho).2⟩, ?_⟩
  have hr := h.row
  rcases hr.2 with ⟨h1, h2⟩ | ⟨g, cp', cur, h1, _⟩
  · exact .inl (List.length_eq_zero_iff.1 h2)
  · injection h1 with h1 h2 h3
    subst h1 h2 h3
    refine .inr ⟨g, 0, rfl, fun i o hi j u hu => ?_⟩
    have hi' := (List.getElem?_eq_some_iff.1 hi).1
    have hj := (List.getElem?_eq_some_iff.1 hu).1
    have hj6 : j < 6 := hj
    rw [Nat.zero_add, hr.cellAt (i * 6 + j) (by omega)]
    exact rowsN_at os i o hi j u hu
theorem Own.keep {w w' : World} {base : Nat} {v : Value} {os : List Nx} (h : Own w base v os) (hr : ∀ k, v.ownBlock = some k → w'.heap[k]? = w.heap[k]?) (hk : ∀ o ∈ os, ∀ k, o.kv.ownBlock = some k → w'.heap[k]? = w.heap[k]?) : Own w' base v os :=
  ⟨own_blk' h.row hr, fun o ho => ⟨own_block (h.kids o ho).1 (hk o ho), (h.kids o ho).2⟩⟩
theorem Own.below {w w' : World} {base : Nat} {v : Value} {os : List Nx} (h : Own w base v os) (hb : Below w.heap.size w w') : Own w' base v os :=
  h.keep (fun k hk => hb.block k (h.row.lt k hk).2) (fun o ho k hk => hb.block k ((h.kids o ho).1.lt k hk).2)
theorem Own.nil (w : World) (base : Nat) : Own w base (.slice none 0 0) [] := ⟨⟨by simp [rowsN], .inl ⟨rfl, rfl⟩⟩, fun o h => by cases h⟩
/-- the row's block is none of the kids' -/
theorem Own.ne {w : World} {base : Nat} {v : Value} {os : List Nx} (h : Own w base v os) {o : Nx} (ho : o ∈ os) {k : Nat} (hk : o.kv.ownBlock = some k) : v.ownBlock ≠ some k := by
  obtain ⟨cur, hc⟩ := own_cells (h.kids o ho).1 k hk
  intro e
  obtain ⟨cur2, hc2⟩ := own_cells h.row k e
  rw [hc] at hc2
  cases hc2
theorem own_ne {w : World} {b1 b2 n1 n2 : Nat} {v1 v2 : Value} {x1 x2 : List Value} (h1 : w.ownsRow b1 3 1 v1 n1 x1) (h2 : w.ownsRow b2 51 6 v2 n2 x2) {k : Nat} (hk : v1.ownBlock = some k) : v2.ownBlock ≠ some k := by
  obtain ⟨cur, hc⟩ := own_cells h1 k hk
  intro e
  obtain ⟨cur2, hc2⟩ := own_cells h2 k e
  rw [hc] at hc2
  cases hc2
end Go.Proofs.Ytgododijnogegaa
