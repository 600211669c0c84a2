import Derived.Test.YtmmnpnhffgpchaaGreatDoorBn22
import Derived.Test.YtmmnpnhffgpchaaGreatDoorLShf
import Derived.Test.YtmmnpnhffgpchaaGreatDoorBn24
import Derived.Deep.RegionHeld3
/-
  Tokens read as a tree, by the document's grammar: a plain function; a reading in memory; the document's fail.
-/
namespace Go.Proofs.YtmmnpnhffgpchaaGreatDoor
open Go.RowKit
set_option linter.unusedVariables false
set_option linter.unusedSimpArgs false
set_option maxRecDepth 100000
/-- a token -/
structure Tk where
  kd : Int
  line : Int
  col : Int
  tx : ByteArray
  quo : Bool
def Tk.row (t : Tk) : List Value := [.int .i64 t.kd, .int .i64 t.line, .int .i64 t.col, .string t.tx, .bool t.quo]
/-- a list of tokens in memory -/
structure Ts (W : World) (a : Option Addr) (L : List Tk) : Prop where
  str : ∀ t ∈ L, t.tx.size ≤ maxLen
  row : L = [] ∨ ∃ g off, a = some ⟨g, off, none⟩ ∧ ∀ (i : Nat) (t : Tk), L[i]? = some t → ∀ (j : Nat) (u : Value), t.row[j]? = some u → W.cell? ⟨g, off + i * 5 + j, none⟩ = some u
/-- whether a token begins the value of a Key or an Item -/
def isVal (u t : Tk) : Bool := decide (2 ≤ t.kd ∧ t.kd ≤ 4) && ((decide (u.kd = 3) && ((decide (t.line = u.line) && decide (t.kd = 4)) || (!decide (t.line = u.line) && (decide (u.col < t.col) || (decide (t.kd = 2) && decide (t.col = u.col)))))) || (decide (u.kd = 2) && (decide (t.line = u.line) || decide (u.col < t.col))))
/-- what a reading comes to: a tree, the next token, the nodes made; or a fault -/
inductive Rr where
  | ok (t : Tr) (q made : Nat)
  | bad (line err : Int) (q made : Nat)
inductive Rl where
  | ok (ts : List Tr) (q made : Nat)
  | bad (line err : Int) (q made : Nat)
def leafT (ln : Int) : Tr := .node 1 ByteArray.empty ByteArray.empty false ln []
def Tr.withKey (key : ByteArray) : Tr → Tr
  | .node kd _ tx quo ln kids => .node kd key tx quo ln kids
/-- whether the next token begins the value -/
def nxtV (L : List Tk) (u : Tk) (q : Nat) : Bool := match L[q]? with | some t => isVal u t | none => false
/-- a value: a block, or a scalar without a token -/
def valM (B : Nat → Nat → Rr) (dead : Bool) (L : List Tk) (u : Tk) (q made : Nat) : Rr :=
  if nxtV L u q = true then B q made
  else if dead = true ∨ made = 4096 then .bad u.line 92 q made else .ok (leafT u.line) q (made + 1)
/-- the entries of a block -/
def lpM (V : Tk → Nat → Nat → Rr) (L : List Tk) (t0 : Tk) : Nat → List Tr → Nat → Nat → Rl
  | 0, acc, q, made => .ok acc q made
  | n + 1, acc, q, made => match L[q]? with
    | none => .ok acc q made
    | some u => if u.kd = t0.kd ∧ u.col = t0.col then
        (if u.kd = 3 ∧ (∃ x ∈ acc, x.key = u.tx) then .bad u.line 91 q made
         else match V u (q + 1) made with
           | .ok v q' made' => lpM V L t0 n (acc ++ [v.withKey (if u.kd = 3 then u.tx else ByteArray.empty)]) q' made'
           | .bad l e q' made' => .bad l e q' made')
      else .ok acc q made
/-- a block, from a token on -/
def blkM (L : List Tk) : Nat → Nat → Nat → Rr
  | 0, q, made => match L[q]? with
    | some t => .bad t.line 92 q made
    | none => .bad 0 0 q made
  | f + 1, q, made => match L[q]? with
    | none => .bad 0 0 q made
    | some t => if made = 4096 then .bad t.line 92 q made
      else if t.kd = 4 then .ok (.node 1 ByteArray.empty t.tx t.quo t.line []) (q + 1) (made + 1)
      else match lpM (valM (blkM L f) (decide (f = 0)) L) L t (L.length - q) [] q (made + 1) with
        | .ok ts q' made' => .ok (.node (if t.kd = 2 then 3 else 2) ByteArray.empty ByteArray.empty false t.line ts) q' made'
        | .bad l e q' made' => .bad l e q' made'
/-- a reading in memory -/
structure Rg (w : World) (rp : Nat) (a : Option Addr) (n cap : Nat) (L : List Tk) (q : Nat) (line err : Int) (made : Nat) : Prop where
  blk : w.heap[rp]? = some (.cells #[.slice a n cap, .int .i64 q, .int .i64 line, .int .i64 err, .int .i64 made] 90 (0, 0))
  ts : Ts w a L
  low : ∀ x, a = some x → L ≠ [] → x.block ≠ rp
  len : L.length = n
  small : n ≤ 17592186043904
  q : q ≤ n
  made : made ≤ 4096
theorem Ts.keep {w w' : World} {a : Option Addr} {L : List Tk} (h : Ts w a L) (hk : ∀ x, a = some x → L ≠ [] → w'.heap[x.block]? = w.heap[x.block]?) : Ts w' a L := by
  refine ⟨h.str, ?_⟩
  rcases h.row with h0 | ⟨g, off, ha, hc⟩
  · exact .inl h0
  · refine .inr ⟨g, off, ha, fun i t hi j u hu => ?_⟩
    rw [← hc i t hi j u hu]
    exact World.cell?_of_block (w := w) (a := ⟨g, off + i * 5 + j, none⟩) (hk ⟨g, off, none⟩ ha (by rintro rfl; simp at hi))
theorem Ts.lt {w : World} {a : Option Addr} {L : List Tk} (h : Ts w a L) : ∀ x, a = some x → L ≠ [] → x.block < w.heap.size := by
  intro x hx hne
  rcases h.row with h0 | ⟨g, off, ha, hc⟩
  · exact absurd h0 hne
  · rw [hx] at ha; cases ha
    rcases L with _ | ⟨t, L⟩
    · exact absurd rfl hne
    · exact World.block_lt_of_cell? w _ (hc 0 t rfl 0 _ rfl)
theorem Rg.cells {w : World} {rp : Nat} {a : Option Addr} {n cap : Nat} {L : List Tk} {q : Nat} {line err : Int} {made : Nat} (h : Rg w rp a n cap L q line err made) : w.cell? ⟨rp, 0, none⟩ = some (.slice a n cap) ∧ w.cell? ⟨rp, 1, none⟩ = some (.int .i64 q) ∧ w.cell? ⟨rp, 2, none⟩ = some (.int .i64 line) ∧ w.cell? ⟨rp, 3, none⟩ = some (.int .i64 err) ∧ w.cell? ⟨rp, 4, none⟩ = some (.int .i64 made) := by
  refine ⟨?_, ?_, ?_, ?_, ?_⟩ <;> rw [cell_block h.blk] <;> rfl
theorem Rg.free {w : World} {rp : Nat} {a : Option Addr} {n cap : Nat} {L : List Tk} {q : Nat} {line err : Int} {made : Nat} (h : Rg w rp a n cap L q line err made) (o : Nat) : w.frozen? ⟨rp, o, none⟩ = false := by simp [World.frozen?, h.blk]
theorem Rg.lt {w : World} {rp : Nat} {a : Option Addr} {n cap : Nat} {L : List Tk} {q : Nat} {line err : Int} {made : Nat} (h : Rg w rp a n cap L q line err made) : rp < w.heap.size := (Array.getElem?_eq_some_iff.1 h.blk).1
theorem Rg.below {w w' : World} {rp : Nat} {a : Option Addr} {n cap : Nat} {L : List Tk} {q : Nat} {line err : Int} {made : Nat} (h : Rg w rp a n cap L q line err made) (hb : Below w.heap.size w w') : Rg w' rp a n cap L q line err made :=
  { h with blk := (hb.block rp h.lt).trans h.blk, ts := h.ts.keep fun x hx hne => hb.block _ (h.ts.lt x hx hne) }
/-- a number of the reading's stored -/
theorem Rg.set {w : World} {rp : Nat} {a : Option Addr} {n cap : Nat} {L : List Tk} {q : Nat} {line err : Int} {made : Nat} (h : Rg w rp a n cap L q line err made) :
    (∀ q' : Nat, q' ≤ n → Rg (w.setCell ⟨rp, 1, none⟩ (.int .i64 q')) rp a n cap L q' line err made) ∧ (∀ l', Rg (w.setCell ⟨rp, 2, none⟩ (.int .i64 l')) rp a n cap L q l' err made) ∧ (∀ e', Rg (w.setCell ⟨rp, 3, none⟩ (.int .i64 e')) rp a n cap L q line e' made) ∧ (∀ m' : Nat, m' ≤ 4096 → Rg (w.setCell ⟨rp, 4, none⟩ (.int .i64 m')) rp a n cap L q line err m') := by
  have hk : ∀ (o : Nat) (u : Value), Ts (w.setCell ⟨rp, o, none⟩ u) a L := fun o u => h.ts.keep fun x hx hne => Below.heap_setCell _ _ _ _ (h.low x hx hne)
  refine ⟨fun q' hq => ⟨?_, hk _ _, h.low, h.len, h.small, hq, h.made⟩, fun l' => ⟨?_, hk _ _, h.low, h.len, h.small, h.q, h.made⟩, fun e' => ⟨?_, hk _ _, h.low, h.len, h.small, h.q, h.made⟩, fun m' hm => ⟨?_, hk _ _, h.low, h.len, h.small, h.q, hm⟩⟩
  all_goals
    rw [heap_setCell_same w rp _ _ 90 _ h.blk]
    rfl
set_option maxHeartbeats 2000000 in
theorem fail_any (w : World) (rp : Nat) (a : Option Addr) (n cap : Nat) (L : List Tk) (q : Nat) (line : Int) (made : Nat) (l' e' : Int) (h : Rg w rp a n cap L q line 0 made) :
    Calls Tryz.prog 38 #[.pointer (some ⟨rp, 0, none⟩), .int .i64 l', .int .i64 e'] w fun e w' => e = .returned (.pointer none) ∧ Rg w' rp a n cap L q l' e' made ∧ But rp w w' := by
  obtain ⟨z0, z1, z2, z3, z4⟩ := h.cells
  have f2 := h.free 2
  have HF : Hid (Rg ((w.setCell ⟨rp, 2, none⟩ (.int .i64 l')).setCell ⟨rp, 3, none⟩ (.int .i64 e')) rp a n cap L q l' e' made) := ((h.set.2.1 l').set.2.2.1 e')
  have y3 := (h.set.2.1 l').cells.2.2.2.1
  have f3 := (h.set.2.1 l').free 3
  clear h
  go_enter Tryz.func38, Tryz.ntmps38
  go_wp2
  go_ret
  exact ⟨rfl, HF.out, (But.set (A := w) 2 _).trans (But.set 3 _)⟩
end Go.Proofs.YtmmnpnhffgpchaaGreatDoor

/-
  The shelf's contracts: those of the other family.
-/

/-
  moved: a node, in new memory, its kids so many less.
-/
namespace Go.Proofs.YtmmnpnhffgpchaaGreatDoor
open Go.RowKit
set_option linter.unusedVariables false
set_option linter.unusedSimpArgs false
set_option maxRecDepth 100000
theorem clone_any (s : ByteArray) (w : World) (hs : s.size ≤ 281474976710656) :
    Calls Tryz.prog 50 #[.string s] w fun e w' => e = .returned (.string s) ∧ Below w.heap.size w w' := by
  go_enter Tryz.func50, Tryz.ntmps50
  go_wp2_with (go_at_call 71; refine (Tryz.stringslite_Clone _ _ hs).mono ?_; rintro e w' ⟨rfl, hb⟩)
  go_ret
  exact ⟨rfl, hb⟩
theorem Tryz.info3' : (Tryz.prog.info? 3).map (fun i => (i.zero, i.size, i.bytes)) = some (some (.int .i64 0), 1, 8) := by kernel_rfl
theorem iV_append (a b : List Int) : iV (a ++ b) = iV a ++ iV b := by simp [iV]
/-- a node's copy under way -/
structure Mw (w wr : World) (o : Nx) (d : Int) (i : Nat) (v : Value) : Prop where
  own : wr.ownsRow (w.heap.size + 2) 3 1 v i (iV ((o.ks.take i).map (· - d)))
  bel : Below w.heap.size w wr
  b0 : wr.heap[w.heap.size]? = some (.cells o.row.toArray 68 (0, 0))
  b1 : wr.heap[w.heap.size + 1]? = some (.cells #[.int .i64 0, .string ⟨#[]⟩, .string ⟨#[]⟩, .bool false, .int .i64 0, .slice none 0 0] 68 (0, 0))
theorem Mw.lt {w wr : World} {o : Nx} {d : Int} {i : Nat} {v : Value} (h : Mw w wr o d i v) : w.heap.size + 2 ≤ wr.heap.size := by
  have := (Array.getElem?_eq_some_iff.1 h.b1).1; omega
theorem Mw.more {w wr w3 : World} {o : Nx} {d k : Int} {i : Nat} {v v3 : Value} {ob : Obj} (h : Mw w wr o d i v) (hk : o.ks[i]? = some k) (hown : w3.ownsRow (w.heap.size + 2) 3 1 v3 (i + 1) (iV ((o.ks.take i).map (· - d)) ++ [.int .i64 (k - d)])) (hg : (wr.alloc ob).grownBy w3 v.ownBlock) : Mw w w3 o d (i + 1) v3 := by
  have hl := h.lt
  have hb : ∀ j, j < w.heap.size + 2 → w3.heap[j]? = wr.heap[j]? := fun j hj => (hg.block j (by simp; omega) (fun e => by have := (h.own.lt j e.symm).1; omega)).trans (Below.heap_alloc wr ob j (by omega))
  refine ⟨?_, h.bel.trans ⟨hg.os, hg.tape, hg.output, Nat.le_trans (by simp) hg.size, fun j hj => hb j (by omega)⟩, (hb _ (by omega)).trans h.b0, (hb _ (by omega)).trans h.b1⟩
  rw [List.take_add_one, hk, Option.toList_some, List.map_append, iV_append]
  exact hown
/-- the three stores -/
theorem upd3 {W : World} {s : Nat} {kd ln : Int} {key tx : ByteArray} {quo : Bool} {u v : Value} (hb : W.heap[s]? = some (.cells #[.int .i64 kd, .string key, .string tx, .bool quo, .int .i64 ln, u] 68 (0, 0))) :
    ((W.setCell ⟨s, 1, none⟩ (.string key)).cell? ⟨s, 1, none⟩ = some (.string key) ∧ (W.setCell ⟨s, 1, none⟩ (.string key)).cell? ⟨s, 2, none⟩ = some (.string tx) ∧ (W.setCell ⟨s, 1, none⟩ (.string key)).frozen? ⟨s, 2, none⟩ = false) ∧
    (((W.setCell ⟨s, 1, none⟩ (.string key)).setCell ⟨s, 2, none⟩ (.string tx)).cell? ⟨s, 1, none⟩ = some (.string key) ∧ ((W.setCell ⟨s, 1, none⟩ (.string key)).setCell ⟨s, 2, none⟩ (.string tx)).cell? ⟨s, 2, none⟩ = some (.string tx) ∧ ((W.setCell ⟨s, 1, none⟩ (.string key)).setCell ⟨s, 2, none⟩ (.string tx)).cell? ⟨s, 5, none⟩ = some u ∧ ((W.setCell ⟨s, 1, none⟩ (.string key)).setCell ⟨s, 2, none⟩ (.string tx)).frozen? ⟨s, 5, none⟩ = false) ∧
    ((((W.setCell ⟨s, 1, none⟩ (.string key)).setCell ⟨s, 2, none⟩ (.string tx)).setCell ⟨s, 5, none⟩ v).cell? ⟨s, 1, none⟩ = some (.string key) ∧ (((W.setCell ⟨s, 1, none⟩ (.string key)).setCell ⟨s, 2, none⟩ (.string tx)).setCell ⟨s, 5, none⟩ v).cell? ⟨s, 2, none⟩ = some (.string tx)) ∧
    (((W.setCell ⟨s, 1, none⟩ (.string key)).setCell ⟨s, 2, none⟩ (.string tx)).setCell ⟨s, 5, none⟩ v).heap[s]? = some (.cells #[.int .i64 kd, .string key, .string tx, .bool quo, .int .i64 ln, v] 68 (0, 0)) ∧
    (∀ k, k ≠ s → (((W.setCell ⟨s, 1, none⟩ (.string key)).setCell ⟨s, 2, none⟩ (.string tx)).setCell ⟨s, 5, none⟩ v).heap[k]? = W.heap[k]?) := by
  have h1 := heap_setCell_same W s 1 _ 68 (.string key) hb
  have h2 := heap_setCell_same _ s 2 _ 68 (.string tx) h1
  have h3 := heap_setCell_same _ s 5 _ 68 v h2
  refine ⟨⟨?_, ?_, ?_⟩, ⟨?_, ?_, ?_, ?_⟩, ⟨?_, ?_⟩, ?_, ?_⟩
  · rw [cell_block h1]; rfl
  · rw [cell_block h1]; rfl
  · simp [World.frozen?, h1]
  · rw [cell_block h2]; rfl
  · rw [cell_block h2]; rfl
  · rw [cell_block h2]; rfl
  · simp [World.frozen?, h2]
  · rw [cell_block h3]; rfl
  · rw [cell_block h3]; rfl
  · rw [h3]; rfl
  · intro k hk
    rw [Below.heap_setCell _ _ _ _ hk, Below.heap_setCell _ _ _ _ hk, Below.heap_setCell _ _ _ _ hk]
theorem upd6 {X Y : World} {s : Nat} {a0 a1 a2 a3 a4 a5 b0 b1 b2 b3 b4 b5 : Value} (hb : X.heap[s]? = some (.cells #[a0, a1, a2, a3, a4, a5] 68 (0, 0))) (hY : ((((((X.setCell ⟨s, 0, none⟩ b0).setCell ⟨s, 1, none⟩ b1).setCell ⟨s, 2, none⟩ b2).setCell ⟨s, 3, none⟩ b3).setCell ⟨s, 4, none⟩ b4).setCell ⟨s, 5, none⟩ b5) = Y) :
    Y.heap[s]? = some (.cells #[b0, b1, b2, b3, b4, b5] 68 (0, 0)) ∧ (∀ k, k ≠ s → Y.heap[k]? = X.heap[k]?) ∧ X.heap.size ≤ Y.heap.size ∧ Y.os = X.os ∧ Y.tape = X.tape ∧ Y.output = X.output := by
  subst hY
  have h0 := heap_setCell_same X s 0 _ 68 b0 hb
  have h1 := heap_setCell_same _ s 1 _ 68 b1 h0
  have h2 := heap_setCell_same _ s 2 _ 68 b2 h1
  have h3 := heap_setCell_same _ s 3 _ 68 b3 h2
  have h4 := heap_setCell_same _ s 4 _ 68 b4 h3
  have h5 := heap_setCell_same _ s 5 _ 68 b5 h4
  have hbt := ((((((But.set (b := s) (A := X) 0 b0).trans (But.set 1 b1)).trans (But.set 2 b2)).trans (But.set 3 b3)).trans (But.set 4 b4)).trans (But.set 5 b5))
  refine ⟨by rw [h5]; simp, ?_, hbt.size, hbt.os, hbt.tape, hbt.output⟩
  intro k hk
  rw [Below.heap_setCell _ _ _ _ hk, Below.heap_setCell _ _ _ _ hk, Below.heap_setCell _ _ _ _ hk, Below.heap_setCell _ _ _ _ hk, Below.heap_setCell _ _ _ _ hk, Below.heap_setCell _ _ _ _ hk]
end Go.Proofs.YtmmnpnhffgpchaaGreatDoor
