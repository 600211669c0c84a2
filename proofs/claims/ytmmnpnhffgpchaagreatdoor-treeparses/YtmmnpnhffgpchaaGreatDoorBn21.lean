import Derived.Test.YtmmnpnhffgpchaaGreatDoorBase
/-
  A list of nodes in memory; a node by its number; Get, and the document's.
-/
namespace Go.Proofs.YtmmnpnhffgpchaaGreatDoor
open Go.RowKit
set_option linter.unusedVariables false
set_option linter.unusedSimpArgs false
set_option maxRecDepth 100000
theorem hideL {p : Prop} (h : p) : Hid p := h
/-- numbers behind a slice's address -/
def Nums (w : World) (a : Option Addr) (cs : List Int) : Prop := (a = none ∧ cs = []) ∨ ∃ x, a = some x ∧ ∀ j, j < cs.length → w.cell? (x.add j) = some (.int .i64 (cs.getD j 0))
/-- a node -/
structure Nx where
  kd : Int
  key : ByteArray
  tx : ByteArray
  quo : Bool
  ln : Int
  a : Option Addr
  n : Nat
  cap : Nat
  ks : List Int
def Nx.row (o : Nx) : List Value := [.int .i64 o.kd, .string o.key, .string o.tx, .bool o.quo, .int .i64 o.ln, .slice o.a o.n o.cap]
/-- what holds of a node in memory -/
structure Nin (W : World) (o : Nx) : Prop where
  s1 : o.key.size ≤ maxLen
  s2 : o.tx.size ≤ maxLen
  len : o.ks.length = o.n
  nums : Nums W o.a o.ks
  rng : ∀ c ∈ o.ks, -9223372036854775808 ≤ c ∧ c ≤ 9223372036854775807
  bare : o.a = none → o.cap = 0
  big : o.n ≤ 17592186043904
/-- a list of nodes in memory -/
structure Ns (W : World) (a : Option Addr) (os : List Nx) : Prop where
  each : ∀ o ∈ os, Nin W o
  row : os = [] ∨ ∃ g off, a = some ⟨g, off, none⟩ ∧ ∀ (i : Nat) (o : Nx), os[i]? = some o → ∀ (j : Nat) (u : Value), o.row[j]? = some u → W.cell? ⟨g, off + i * 6 + j, none⟩ = some u
theorem ba_ne {a b : ByteArray} (h : ¬ a = b) : (a.toList == b.toList) = false := by
  rw [beq_eq_false_iff_ne, ByteArray.toList_eq, ByteArray.toList_eq]
  intro e
  obtain ⟨x⟩ := a
  obtain ⟨y⟩ := b
  exact h (congrArg ByteArray.mk (Array.toList_inj.1 e))
theorem ba_eq (a : ByteArray) : (a.toList == a.toList) = true := by simp
/-- whether a number is that of a node with this key -/
def hit (l : List Nx) (key : ByteArray) (k : Int) : Bool := decide (0 ≤ k) && (match l[k.toNat]? with | some o => decide (o.key = key) | none => false)
/-- what Get answers -/
def getF (l : List Nx) (z : Int) (key : ByteArray) : Option Int := if 0 ≤ z then (match l[z.toNat]? with | some o => if o.kd = 2 then o.ks.find? (hit l key) else none | none => none) else none
theorem find_at {α : Type} {p : α → Bool} : ∀ (ks : List α) (i : Nat) (k : α), ks[i]? = some k → p k = true → (∀ (j : Nat) (c : α), j < i → ks[j]? = some c → p c = false) → ks.find? p = some k
  | [], i, k, h, _, _ => by simp at h
  | x :: ks, 0, k, h, hp, _ => by simp at h; subst h; simp [hp]
  | x :: ks, i + 1, k, h, hp, hb => by
    have hx := hb 0 x (by omega) rfl
    simp only [List.find?_cons, hx]
    exact find_at ks i k (by simpa using h) hp (fun j c hj hc => hb (j + 1) c (by omega) (by simpa using hc))
theorem find_no {α : Type} {p : α → Bool} (ks : List α) (hb : ∀ (j : Nat) (c : α), ks[j]? = some c → p c = false) : ks.find? p = none := by
  rw [List.find?_eq_none]
  intro c hc
  obtain ⟨j, hj⟩ := List.mem_iff_getElem?.1 hc
  simp [hb j c hj]
theorem getF_none {l : List Nx} {z : Int} {key : ByteArray} (h : ¬ (0 ≤ z ∧ z < l.length)) : getF l z key = none := by
  unfold getF
  split
  · rw [List.getElem?_eq_none (by omega)]
  · rfl
theorem getF_at {l : List Nx} {q : Nat} {key : ByteArray} {o : Nx} (h : l[q]? = some o) : getF l q key = if o.kd = 2 then o.ks.find? (hit l key) else none := by
  unfold getF
  rw [if_pos (by omega), Int.toNat_natCast, h]
theorem hit_at {l : List Nx} {q : Nat} {key : ByteArray} {o : Nx} (h : l[q]? = some o) : hit l key q = decide (o.key = key) := by
  unfold hit
  rw [Int.toNat_natCast, h]
  simp
theorem hit_out {l : List Nx} {z : Int} {key : ByteArray} (h : ¬ (0 ≤ z ∧ z < l.length)) : hit l key z = false := by
  unfold hit
  by_cases hz : 0 ≤ z
  · rw [List.getElem?_eq_none (by omega)]; simp
  · simp [hz]
theorem Nums.at_ {w : World} {a : Option Addr} {cs : List Int} (h : Nums w a cs) {i : Nat} {k : Int} (hi : cs[i]? = some k) : ∃ x, a = some x ∧ w.cell? (x.add i) = some (.int .i64 k) := by
  obtain ⟨hl, he⟩ := List.getElem?_eq_some_iff.1 hi
  rcases h with ⟨_, rfl⟩ | ⟨x, hx, hc⟩
  · simp at hl
  · refine ⟨x, hx, ?_⟩
    rw [hc i hl]; simp [List.getD, hi]
def getV (o : Option Int) : Value := .tuple #[.int .i64 (o.getD 0), .bool o.isSome]
end Go.Proofs.YtmmnpnhffgpchaaGreatDoor

/-
  isNode: whether a node, looked at by itself, may be in a tree; ints: two lists of numbers.
-/
namespace Go.Proofs.YtmmnpnhffgpchaaGreatDoor
open Go.RowKit
set_option linter.unusedVariables false
set_option linter.unusedSimpArgs false
set_option maxRecDepth 100000
/-- what isNode answers -/
def isN (o : Nx) : Bool := if o.kd = 1 then decide (0 ≤ o.ln) && decide (o.n = 0) else if o.kd = 2 ∨ o.kd = 3 then decide (0 ≤ o.ln) && decide (0 < o.n) && decide (o.tx = ByteArray.empty) && !o.quo else false
end Go.Proofs.YtmmnpnhffgpchaaGreatDoor

/-
  A tree's part in a list of nodes, as a plain function; a walker in memory.
-/
namespace Go.Proofs.YtmmnpnhffgpchaaGreatDoor
open Go.RowKit
set_option linter.unusedVariables false
set_option linter.unusedSimpArgs false
def keysOf (l : List Nx) (ks : List Int) : List ByteArray := ks.map fun k => ((l[k.toNat]?).map Nx.key).getD ByteArray.empty
def keysOk (l : List Nx) (o : Nx) : Bool := if o.kd = 2 then decide (keysOf l o.ks).Nodup else decide (∀ b ∈ keysOf l o.ks, b = ByteArray.empty)
/-- the kids, one behind the other: the number behind the last, the height of the highest -/
def kidsT (S : Nat → Option (Nat × Nat)) : List Int → Nat → Nat → Option (Nat × Nat)
  | [], q, h => some (q, h)
  | k :: ks, q, h => if k = q then (match S q with | some (e, h') => kidsT S ks e (max h h') | none => none) else none
/-- a part: the number behind it, its height -/
def subT (l : List Nx) : Nat → Nat → Option (Nat × Nat)
  | 0, _ => none
  | f + 1, q => match l[q]? with
    | some o => if isN o = true then (match kidsT (subT l f) o.ks (q + 1) 0 with | some (e, h) => if keysOk l o = true then some (e, h + 1) else none | none => none) else none
    | none => none
/-- the blocks of a list of nodes lie below a line -/
structure Low (L : Nat) (a : Option Addr) (l : List Nx) : Prop where
  row : ∀ x, a = some x → l ≠ [] → x.block < L
  each : ∀ o ∈ l, ∀ x, o.a = some x → 0 < o.ks.length → x.block < L
theorem add_block (x : Addr) (j : Nat) : (x.add j).block = x.block := by unfold Addr.add; split <;> rfl
theorem Nums.kept {w w' : World} {a : Option Addr} {cs : List Int} (h : Nums w a cs) (hk : ∀ x, a = some x → 0 < cs.length → w'.heap[x.block]? = w.heap[x.block]?) : Nums w' a cs := by
  rcases h with h | ⟨x, rfl, hc⟩
  · exact .inl h
  · refine .inr ⟨x, rfl, fun j hj => ?_⟩
    rw [← hc j hj]
    exact World.cell?_of_block (w := w) (a := x.add j) (by rw [add_block]; exact hk x rfl (by omega))
theorem Ns.kept {w w' : World} {a : Option Addr} {l : List Nx} (h : Ns w a l) {L : Nat} (hl : Low L a l) (hk : ∀ k, k < L → k < w.heap.size → w'.heap[k]? = w.heap[k]?) : Ns w' a l := by
  refine ⟨fun o ho => ?_, ?_⟩
  · have hn := h.each o ho
    refine { hn with nums := hn.nums.kept fun x hx h0 => hk _ (hl.each o ho x hx h0) ?_ }
    rcases hn.nums with ⟨_, h1⟩ | ⟨y, hy, hc⟩
    · rw [h1] at h0; simp at h0
    · rw [hx] at hy; cases hy
      have := World.block_lt_of_cell? w _ (hc 0 h0)
      rwa [add_block] at this
  · rcases h.row with h0 | ⟨g, off, ha, hc⟩
    · exact .inl h0
    · refine .inr ⟨g, off, ha, fun i o hi j u hu => ?_⟩
      have h1 := hc i o hi j u hu
      rw [← h1]
      exact World.cell?_of_block (w := w) (a := ⟨g, off + i * 6 + j, none⟩) (hk g (hl.row _ ha (by rintro rfl; simp at hi)) (World.block_lt_of_cell? w _ h1))
theorem subT_out {l : List Nx} {f q : Nat} (h : l.length ≤ q) : subT l f q = none := by
  cases f with
  | zero => rfl
  | succ f => simp [subT, List.getElem?_eq_none h]
end Go.Proofs.YtmmnpnhffgpchaaGreatDoor
