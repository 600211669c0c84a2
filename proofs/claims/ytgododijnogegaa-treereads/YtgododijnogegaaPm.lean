/-
  Tokens read as a tree, by the document's grammar: a plain function; a reading in memory; the document's fail.
-/
import Derived.Test.YtgododijnogegaaTrm
namespace Go.Proofs.Ytgododijnogegaa
open Go.RowKit
set_option linter.unusedVariables false
set_option linter.unusedSimpArgs false
set_option maxRecDepth 100000
/-- a token -/
structure Tk where
  kd : Int
  line : Int
  col : Int
  tx : ByteArray
  quo : Bool
def Tk.row (t : Tk) : List Value := [.int .i64 t.kd, .int .i64 t.line, .int .i64 t.col, .string t.tx, .bool t.quo]
/-- a list of tokens in memory -/
structure Ts (W : World) (a : Option Addr) (L : List Tk) : Prop where
  str : ∀ t ∈ L, t.tx.size ≤ maxLen
  row : L = [] ∨ ∃ g off, a = some ⟨g, off, none⟩ ∧ ∀ (i : Nat) (t : Tk), L[i]? = some t → ∀ (j : Nat) (u : Value), t.row[j]? = some u → W.cell? ⟨g, off + i * 5 + j, none⟩ = some u
/-- whether a token begins the value of a Key or an Item -/
def isVal (u t : Tk) : Bool := decide (2 ≤ t.kd ∧ t.kd ≤ 4) && ((decide (u.kd = 3) && ((decide (t.line = u.line) && decide (t.kd = 4)) || (!decide (t.line = u.line) && (decide (u.col < t.col) || (decide (t.kd = 2) && decide (t.col = u.col)))))) || (decide (u.kd = 2) && (decide (t.line = u.line) || decide (u.col < t.col))))
/-- what a reading comes to: a tree, the next token, the nodes made; or a fault -/
inductive Rr where
  | ok (t : Tr) (q made : Nat)
  | bad (line err : Int) (q made : Nat)
inductive Rl where
  | ok (ts : List Tr) (q made : Nat)
  | bad (line err : Int) (q made : Nat)
def leafT (ln : Int) : Tr := .node 1 ByteArray.empty ByteArray.empty false ln []
def Tr.withKey (key : ByteArray) : Tr → Tr
  | .node kd _ tx quo ln kids => .node kd key tx quo ln kids
/-- whether the next token begins the value -/
def nxtV (L : List Tk) (u : Tk) (q : Nat) : Bool := match L[q]? with | some t => isVal u t | none => false
/-- a value: a block, or a scalar without a token -/
def valM (B : Nat → Nat → Rr) (dead : Bool) (L : List Tk) (u : Tk) (q made : Nat) : Rr :=
  if nxtV L u q = true then B q made
  else if dead = true ∨ made = 4096 then .bad u.line 92 q made else .ok (leafT u.line) q (made + 1)
/-- the entries of a block -/
def lpM (V : Tk → Nat → Nat → Rr) (L : List Tk) (t0 : Tk) : Nat → List Tr → Nat → Nat → Rl
  | 0, acc, q, made => .ok acc q made
  | n + 1, acc, q, made => match L[q]? with
    | none => .ok acc q made
    | some u => if u.kd = t0.kd ∧ u.col = t0.col then
        (if u.kd = 3 ∧ (∃ x ∈ acc, x.key = u.tx) then .bad u.line 91 q made
         else match V u (q + 1) made with
           | .ok v q' made' => lpM V L t0 n (acc ++ [v.withKey (if u.kd = 3 then u.tx else ByteArray.empty)]) q' made'
           | .bad l e q' made' => .bad l e q' made')
      else .ok acc q made
/-- a block, from a token on -/
def blkM (L : List Tk) : Nat → Nat → Nat → Rr
  | 0, q, made => match L[q]? with
    | some t => .bad t.line 92 q made
    | none => .bad 0 0 q made
  | f + 1, q, made => match L[q]? with
    | none => .bad 0 0 q made
    | some t => if made = 4096 then .bad t.line 92 q made
      else if t.kd = 4 then .ok (.node 1 ByteArray.empty t.tx t.quo t.line []) (q + 1) (made + 1)
      else match lpM (valM (blkM L f) (decide (f = 0)) L) L t (L.length - q) [] q (made + 1) with
        | .ok ts q' made' => .ok (.node (if t.kd = 2 then 3 else 2) ByteArray.empty ByteArray.empty false t.line ts) q' made'
        | .bad l e q' made' => .bad l e q' made'
/-- a reading in memory -/
structure Rg (w : World) (rp : Nat) (a : Option Addr) (n cap : Nat) (L : List Tk) (q : Nat) (line err : Int) (made : Nat) : Prop where
  blk : w.heap[rp]? = some (.cells #[.slice a n cap, .int .i64 q, .int .i64 line, .int .i64 err, .int .i64 made] 84 (0, 0))
  ts : Ts w a L
  low : ∀ x, a = some x → L ≠ [] → x.block ≠ rp
  len : L.length = n
  small : n ≤ 17592186043904
  q : q ≤ n
  made : made ≤ 4096
theorem Ts.keep {w w' : World} {a : Option Addr} {L : List Tk} (h : Ts w a L) (hk : ∀ x, a = some x → L ≠ [] → w'.heap[x.block]? = w.heap[x.block]?) : Ts w' a L := by
  refine ⟨h.str, ?_⟩
  rcases h.row with h0 | ⟨g, off, ha, hc⟩
  · exact .inl h0
  · refine .inr ⟨g, off, ha, fun i t hi j u hu => ?_⟩
    rw [← hc i t hi j u hu]
    exact World.cell?_of_block (w := w) (a := ⟨g, off + i * 5 + j, none⟩) (hk ⟨g, off, none⟩ ha (by rintro rfl; simp at hi))
theorem Ts.lt {w : World} {a : Option Addr} {L : List Tk} (h : Ts w a L) : ∀ x, a = some x → L ≠ [] → x.block < w.heap.size := by
  intro x hx hne
  rcases h.row with h0 | ⟨g, off, ha, hc⟩
  · exact absurd h0 hne
  · rw [hx] at ha; cases ha
    rcases L with _ | ⟨t, L⟩
    · exact absurd rfl hne
    · exact World.block_lt_of_cell? w _ (hc 0 t rfl 0 _ rfl)
theorem Rg.cells {w : World} {rp : Nat} {a : Option Addr} {n cap : Nat} {L : List Tk} {q : Nat} {line err : Int} {made : Nat} (h : Rg w rp a n cap L q line err made) : w.cell? ⟨rp, 0, none⟩ = some (.slice a n cap) ∧ w.cell? ⟨rp, 1, none⟩ = some (.int .i64 q) ∧ w.cell? ⟨rp, 2, none⟩ = some (.int .i64 line) ∧ w.cell? ⟨rp, 3, none⟩ = some (.int .i64 err) ∧ w.cell? ⟨rp, 4, none⟩ = some (.int .i64 made) := by
  refine ⟨?_, ?_, ?_, ?_, ?_⟩ <;> rw [cell_block h.blk] <;> rfl
theorem Rg.free {w : World} {rp : Nat} {a : Option Addr} {n cap : Nat} {L : List Tk} {q : Nat} {line err : Int} {made : Nat} (h : Rg w rp a n cap L q line err made) (o : Nat) : w.frozen? ⟨rp, o, none⟩ = false := by simp [World.frozen?, h.blk]
theorem Rg.lt {w : World} {rp : Nat} {a : Option Addr} {n cap : Nat} {L : List Tk} {q : Nat} {line err : Int} {made : Nat} (h : Rg w rp a n cap L q line err made) : rp < w.heap.size := (Array.getElem?_eq_some_iff.1 h.blk).1
theorem Rg.below {w w' : World} {rp : Nat} {a : Option Addr} {n cap : Nat} {L : List Tk} {q : Nat} {line err : Int} {made : Nat} (h : Rg w rp a n cap L q line err made) (hb : Below w.heap.size w w') : Rg w' rp a n cap L q line err made :=
  { h with blk := (hb.block rp h.lt).trans h.blk, ts := h.ts.keep fun x hx hne => hb.block _ (h.ts.lt x hx hne) }
/-- a number of the reading's stored -/
theorem Rg.set {w : World} {rp : Nat} {a : Option Addr} {n cap : Nat} {L : List Tk} {q : Nat} {line err : Int} {made : Nat} (h : Rg w rp a n cap L q line err made) :
    (∀ q' : Nat, q' ≤ n → Rg (w.setCell ⟨rp, 1, none⟩ (.int .i64 q')) rp a n cap L q' line err made) ∧ (∀ l', Rg (w.setCell ⟨rp, 2, none⟩ (.int .i64 l')) rp a n cap L q l' err made) ∧ (∀ e', Rg (w.setCell ⟨rp, 3, none⟩ (.int .i64 e')) rp a n cap L q line e' made) ∧ (∀ m' : Nat, m' ≤ 4096 → Rg (w.setCell ⟨rp, 4, none⟩ (.int .i64 m')) rp a n cap L q line err m') := by
  have hk : ∀ (o : Nat) (u : Value), Ts (w.setCell ⟨rp, o, none⟩ u) a L := fun o u => h.ts.keep fun x hx hne => Below.heap_setCell _ _ _ _ (h.low x hx hne)
  refine ⟨fun q' hq => ⟨?_, hk _ _, h.low, h.len, h.small, hq, h.made⟩, fun l' => ⟨?_, hk _ _, h.low, h.len, h.small, h.q, h.made⟩, fun e' => ⟨?_, hk _ _, h.low, h.len, h.small, h.q, h.made⟩, fun m' hm => ⟨?_, hk _ _, h.low, h.len, h.small, h.q, hm⟩⟩
  all_goals
    rw [heap_setCell_same w rp _ _ 84 _ h.blk]
    rfl
set_option maxHeartbeats 2000000 in
theorem fail_any (w : World) (rp : Nat) (a : Option Addr) (n cap : Nat) (L : List Tk) (q : Nat) (line : Int) (made : Nat) (l' e' : Int) (h : Rg w rp a n cap L q line 0 made) :
    Calls Try.prog 39 #[.pointer (some ⟨rp, 0, none⟩), .int .i64 l', .int .i64 e'] w fun e w' => e = .returned (.pointer none) ∧ Rg w' rp a n cap L q l' e' made ∧ But rp w w' := by
  obtain ⟨z0, z1, z2, z3, z4⟩ := h.cells
  have f2 := h.free 2
  have HF : Hid (Rg ((w.setCell ⟨rp, 2, none⟩ (.int .i64 l')).setCell ⟨rp, 3, none⟩ (.int .i64 e')) rp a n cap L q l' e' made) := ((h.set.2.1 l').set.2.2.1 e')
  have y3 := (h.set.2.1 l').cells.2.2.2.1
  have f3 := (h.set.2.1 l').free 3
  clear h
  go_enter Try.func39, Try.ntmps39
  go_wp2
  go_ret
  exact ⟨rfl, HF.out, (But.set (A := w) 2 _).trans (But.set 3 _)⟩
end Go.Proofs.Ytgododijnogegaa
