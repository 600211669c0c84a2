/-
  A net in memory.
-/
import Derived.Test.YtcbnmoppnoiggaaBase
import Derived.ArgAppend
import Derived.ScopeJumps
import Derived.WalkMore
namespace Go.Proofs.Ytcbnmoppnoiggaa
open Go.RowKit
set_option linter.unusedVariables false
set_option linter.unusedSimpArgs false
theorem Try.info5 : (Try.prog.info? 5).map (fun i => (i.zero, i.size, i.bytes)) = some (some (.int .u8 0), 1, 1) := by kernel_rfl
theorem Try.info68 : (Try.prog.info? 68).map (fun i => (i.zero, i.size, i.bytes)) = some (some (.pointer none), 1, 8) := by kernel_rfl

/-- Bytes in memory of their own, from wherever in their block on. -/
def Buf (w : World) (base : Nat) (v : Value) (zs : List Int) : Prop :=
  Octets zs ∧ ((v = .slice none 0 0 ∧ zs = []) ∨ ∃ g off cap cur, v = .slice (some ⟨g, off, none⟩) zs.length cap ∧ base ≤ g ∧ w.heap[g]? = some (.cells cur 5 (0, 0)) ∧ zs.length ≤ cap ∧ cap ≤ maxLen ∧ off + cap ≤ cur.size ∧ ∀ j, j < zs.length → w.cell? ⟨g, off + j, none⟩ = some (.int .u8 (zs.getD j 0)))
structure Sd where
  u : Value
  us : List Int
  a : Value
  ar : List Int
  cl : Bool
  to : Bool
structure Cn where
  k : Nat
  nm : ByteArray
  wt : Bool
  ct : Bool
  s0 : Sd
  s1 : Sd
def Cn.cells (c : Cn) : Array Value := #[.string c.nm, .bool c.wt, .bool c.ct, c.s0.u, c.s0.a, .bool c.s0.cl, .bool c.s0.to, c.s1.u, c.s1.a, .bool c.s1.cl, .bool c.s1.to]
def Sd.blocks (s : Sd) : List Nat := s.u.ownBlock.toList ++ s.a.ownBlock.toList
def Cn.blocks (c : Cn) : List Nat := c.k :: (c.s0.blocks ++ c.s1.blocks)
def blocks (b : Nat) (row : Value) (cs : List Cn) : List Nat := b :: (row.ownBlock.toList ++ cs.flatMap Cn.blocks)
structure Con (w : World) (base : Nat) (c : Cn) : Prop where
  blk : w.heap[c.k]? = some (.cells c.cells 75 (0, 0))
  low : base ≤ c.k
  u0 : Buf w base c.s0.u c.s0.us
  a0 : Buf w base c.s0.a c.s0.ar
  u1 : Buf w base c.s1.u c.s1.us
  a1 : Buf w base c.s1.a c.s1.ar
structure Net (w : World) (base b : Nat) (row mv : Value) (cs : List Cn) : Prop where
  net : w.heap[b]? = some (.cells #[row, mv] 55 (0, 0))
  low : base ≤ b
  rw : w.ownsRow base 68 1 row cs.length (cs.map fun c => .pointer (some ⟨c.k, 0, none⟩))
  con : ∀ c ∈ cs, Con w base c
  nod : (blocks b row cs).Nodup
  few : cs.length ≤ 4096
theorem cell_block {w : World} {b : Nat} {cs : Array Value} {t : TypeId} {fr : Nat × Nat} (h : w.heap[b]? = some (.cells cs t fr)) (o : Nat) : w.cell? ⟨b, o, none⟩ = cs[o]? := by
  simp [World.cell?, h]
/-- What reach finds. -/
theorem Net.parts {w : World} {base b : Nat} {row mv : Value} {cs : List Cn} (h : Net w base b row mv cs) (i : Nat) (c : Cn) (hc : cs[i]? = some c) :
    ∃ g cap, row = .slice (some ⟨g, 0, none⟩) cs.length cap ∧ w.cell? ⟨g, i, none⟩ = some (.pointer (some ⟨c.k, 0, none⟩)) ∧ Con w base c := by
  have hi : i < cs.length := (List.getElem?_eq_some_iff.1 hc).1
  obtain ⟨g, cap, hv, _⟩ := h.rw.form (by omega)
  refine ⟨g, cap, hv, ?_, h.con c (List.mem_of_getElem? hc)⟩
  subst hv
  rw [h.rw.cellAt i (by omega)]
  simp [hc]

theorem wp_scope_once {P : Program} {a : Act} {w : World} {Q : Exit → Act → World → Prop} {c rest : Code} (l : Nat) (hf : findLabel c l = some rest)
    (h : c.wp P (Exit.jump l (fun a' w' => rest.wp P (Exit.noGoto Q) a' w') Q) a w) : (Code.scope c).wp P Q a w :=
  wp_scope_jumps l _ (fun _ _ => 0) hf h (fun a w hJ => Code.wp_mono (fun e a' w' hq => by
    cases e with
    | goto l' => exact hq.elim
    | _ => exact hq) hJ)
theorem jump_ret {l : Nat} {J : Act → World → Prop} {Q : Exit → Act → World → Prop} {a : Act} {w : World} (h : Q .ret a w) : Exit.jump l J Q .ret a w := h
theorem jump_goto {l : Nat} {J : Act → World → Prop} {Q : Exit → Act → World → Prop} {a : Act} {w : World} (h : J a w) : Exit.jump l J Q (.goto l) a w := ⟨rfl, h⟩

set_option maxHeartbeats 400000 in
theorem reach_ok (base b : Nat) (row mv : Value) (cs : List Cn) (i : Nat) (c : Cn) (side many : Int) (w : World) (h : Net w base b row mv cs) (hc : cs[i]? = some c) (hs : 0 ≤ side) (hs1 : side ≤ 1) (hm : 0 ≤ many) (hcut : c.ct = false) :
    Calls Try.prog 31 #[.pointer (some ⟨b, 0, none⟩), .int .i64 i, .int .i64 side, .int .i64 many] w fun e w' => w' = w ∧ e = .returned (.tuple #[.pointer (some ⟨c.k, 0, none⟩), .int .i64 0]) := by
  have hi : i < cs.length := (List.getElem?_eq_some_iff.1 hc).1
  obtain ⟨g, cap, rfl, hg, C⟩ := h.parts i c hc
  have c0 : w.cell? ⟨b, 0, none⟩ = some (.slice (some ⟨g, 0, none⟩) cs.length cap) := by rw [cell_block h.net]; rfl
  have c2 : w.cell? ⟨c.k, 2, none⟩ = some (.bool false) := by rw [cell_block C.blk, ← hcut]; rfl
  have hfew := h.few
  clear h C hc hcut
  obtain ⟨N, hN⟩ : ∃ N, cs.length = N := ⟨_, rfl⟩
  rw [hN] at hi c0 hfew
  clear hN
  go_enter Try.func31, Try.ntmps31
  go_wp2_with fail
  refine wp_scope_once 0 rfl ?_
  go_wp2_with fail
  refine jump_ret ?_
  go_ret2
  exact ⟨rfl, rfl⟩

set_option maxHeartbeats 400000 in
theorem reach_cut (base b : Nat) (row mv : Value) (cs : List Cn) (i : Nat) (c : Cn) (side many : Int) (w : World) (h : Net w base b row mv cs) (hc : cs[i]? = some c) (hs : 0 ≤ side) (hs1 : side ≤ 1) (hm : 0 ≤ many) (hcut : c.ct = true) :
    Calls Try.prog 31 #[.pointer (some ⟨b, 0, none⟩), .int .i64 i, .int .i64 side, .int .i64 many] w fun e w' => w' = w ∧ e = .returned (.tuple #[.pointer none, .int .i64 40]) := by
  have hi : i < cs.length := (List.getElem?_eq_some_iff.1 hc).1
  obtain ⟨g, cap, rfl, hg, C⟩ := h.parts i c hc
  have c0 : w.cell? ⟨b, 0, none⟩ = some (.slice (some ⟨g, 0, none⟩) cs.length cap) := by rw [cell_block h.net]; rfl
  have c2 : w.cell? ⟨c.k, 2, none⟩ = some (.bool true) := by rw [cell_block C.blk, ← hcut]; rfl
  have hfew := h.few
  clear h C hc hcut
  obtain ⟨N, hN⟩ : ∃ N, cs.length = N := ⟨_, rfl⟩
  rw [hN] at hi c0 hfew
  clear hN
  go_enter Try.func31, Try.ntmps31
  go_wp2_with fail
  refine wp_scope_once 0 rfl ?_
  go_wp2_with fail
  go_step3
  refine ⟨rfl, ?_⟩
  go_wp2_with fail
  rw [Exit.noGoto_ret]
  go_ret2
  exact ⟨rfl, rfl⟩

set_option maxHeartbeats 400000 in
theorem reach_nil (i side many : Int) (w : World) :
    Calls Try.prog 31 #[.pointer none, .int .i64 i, .int .i64 side, .int .i64 many] w fun e w' => w' = w ∧ e = .returned (.tuple #[.pointer none, .int .i64 1]) := by
  go_enter Try.func31, Try.ntmps31
  go_wp2_with fail
  refine wp_scope_once 0 rfl ?_
  go_wp2_with fail
  go_step3
  refine ⟨rfl, ?_⟩
  go_wp2_with fail
  rw [Exit.noGoto_ret]
  go_ret2
  exact ⟨rfl, rfl⟩

set_option maxHeartbeats 400000 in
theorem reach_arg (base b : Nat) (row mv : Value) (cs : List Cn) (i : Int) (side many : Int) (w : World) (h : Net w base b row mv cs) (hbad : i < 0 ∨ (cs.length : Int) ≤ i ∨ side < 0 ∨ 1 < side ∨ many < 0) :
    Calls Try.prog 31 #[.pointer (some ⟨b, 0, none⟩), .int .i64 i, .int .i64 side, .int .i64 many] w fun e w' => w' = w ∧ e = .returned (.tuple #[.pointer none, .int .i64 2]) := by
  obtain ⟨ao, cap, hrow⟩ : ∃ ao cap, row = .slice ao cs.length cap := by
    rcases h.rw.2 with ⟨h, h0⟩ | ⟨g, cap, _, h, _⟩
    · exact ⟨_, _, h0 ▸ h⟩
    · exact ⟨_, _, h⟩
  subst hrow
  have c0 : w.cell? ⟨b, 0, none⟩ = some (.slice ao cs.length cap) := by rw [cell_block h.net]; rfl
  have hfew := h.few
  clear h
  obtain ⟨N, hN⟩ : ∃ N, cs.length = N := ⟨_, rfl⟩
  rw [hN] at c0 hfew hbad
  clear hN
  have hb : Hid (i < 0 ∨ (N : Int) ≤ i ∨ side < 0 ∨ 1 < side ∨ many < 0) := hbad
  clear hbad
  go_enter Try.func31, Try.ntmps31
  go_wp2_with fail
  refine wp_scope_once 0 rfl ?_
  go_wp2_with fail
  all_goals first
    | (go_step3
       refine ⟨rfl, ?_⟩
       go_wp2_with fail
       rw [Exit.noGoto_ret]
       go_ret2
       exact ⟨rfl, rfl⟩)
    | skip
  rename_i hneg
  exfalso
  have h := hb.out
  omega
end Go.Proofs.Ytcbnmoppnoiggaa
