import Derived.Test.YtmmnpnhffgpchaaGreatDoorBn26
import Derived.RegionDies
import Derived.Deep.RegionLaw
import Derived.BigQuiet
/-
  A grower's isNext and giveUp; hasBlock and isValue.
-/
namespace Go.Proofs.YtmmnpnhffgpchaaGreatDoor
open Go.RowKit
set_option linter.unusedVariables false
set_option linter.unusedSimpArgs false
set_option maxRecDepth 100000
/-- is the next token of that kind, in that column? -/
def nxB (L : List Tk) (q : Nat) (kd col : Int) : Bool := match L[q]? with
  | some t => decide (t.kd = kd) && decide (t.col = col)
  | none => false
theorem isNext_any (w : World) (base gp : Nat) (doc : Int) (g off n cap : Nat) (L : List Tk) (q : Nat) (v : Value) (os : List Nx) (k0 c0 : Int) (h : Gs w base gp doc g off n cap L q v os) :
    Calls Tryz.prog 74 #[.pointer (some ⟨gp, 0, none⟩), .int .i64 k0, .int .i64 c0] w fun e w' => e = .returned (.bool (nxB L q k0 c0)) ∧ w' = w := by
  obtain ⟨oq, hblk, hoq⟩ := h.blk
  have z1 : w.cell? ⟨gp, 1, none⟩ = some (.slice (some ⟨g, oq, none⟩) (n - q) (cap - q)) := by rw [cell_block hblk]; rfl
  unfold nxB
  obtain ⟨m, hm⟩ : ∃ m, n - q = m := ⟨_, rfl⟩
  obtain ⟨c, hc⟩ : ∃ c, cap - q = c := ⟨_, rfl⟩
  rw [hm, hc] at z1
  rcases ht : L[q]? with _ | t
  · have hq : n ≤ q := by have := List.getElem?_eq_none_iff.1 ht; have := h.len; omega
    have hm0 : m = 0 := by omega
    subst hm0
    simp only
    clear h hm hc hblk hoq ht hq
    go_enter Tryz.func74, Tryz.ntmps74
    go_wp2
    go_ret
    exact ⟨rfl, rfl⟩
  · have hq : q < n := by have := (List.getElem?_eq_some_iff.1 ht).1; have := h.len; omega
    obtain ⟨y0, y1, y2, y3, y4⟩ := h.tok ht
    rw [← hoq hq] at y0 y1 y2 y3 y4
    have i2 : (0 : Int) < (m : Int) := by omega
    have m1 : 1 ≤ m := by omega
    simp only
    obtain ⟨kd, line, col, tx, quo⟩ := t
    dsimp only at *
    clear h hm hc hblk hoq ht hq
    by_cases hk : kd = k0
    · have hk2 : (kd == k0) = true := by rw [beq_iff_eq]; exact hk
      rw [decide_eq_true hk, Bool.true_and]
      clear hk
      go_enter Tryz.func74, Tryz.ntmps74
      go_wp2
      go_ret
      exact ⟨rfl, rfl⟩
    · have hk2 : (kd == k0) = false := by rw [beq_eq_false_iff_ne]; exact hk
      rw [decide_eq_false hk, Bool.false_and]
      clear hk
      go_enter Tryz.func74, Tryz.ntmps74
      go_wp2
      go_ret
      exact ⟨rfl, rfl⟩
/-- given up -/
def wrongE (doc l e : Int) : Ending := .panicked [{ v := .iface 75 (.agg #[.int .i64 doc, .int .i64 l, .int .i64 e]), recovered := false }]
theorem giveUp_any (w : World) (base gp : Nat) (doc : Int) (g off n cap : Nat) (L : List Tk) (q : Nat) (v : Value) (os : List Nx) (t : Tk) (er : Int) (h : Gs w base gp doc g off n cap L q v os) :
    Calls Tryz.prog 32 #[.pointer (some ⟨gp, 0, none⟩), tokV t, .int .i64 er] w fun e w' => e = wrongE doc t.line er ∧ Below w.heap.size w w' := by
  obtain ⟨oq, hblk, hoq⟩ := h.blk
  have z0 : w.cell? ⟨gp, 0, none⟩ = some (.int .i64 doc) := by rw [cell_block hblk]; rfl
  have z0a := cell_al z0
  unfold tokV
  obtain ⟨kd, line, col, tx, quo⟩ := t
  dsimp only at *
  clear h hblk hoq
  go_enter Tryz.func32, Tryz.ntmps32
  go_wp2
  go_region_dies
  all_goals (try go_wp2)
  all_goals exact ⟨rfl, rfl, below_drewN ((Below.refl _ w).alloc (Nat.le_refl _) _) 1⟩
/-- has a token a block? -/
def hbB (t : Tk) : Bool := decide (t.kd = 3) || decide (t.kd = 2) || decide (t.kd = 4)
theorem hasBlock_any (t : Tk) (w : World) : Calls Tryz.prog 103 #[tokV t] w fun e w' => e = .returned (.bool (hbB t)) ∧ Below w.heap.size w w' := by
  obtain ⟨kd, line, col, tx, quo⟩ := t
  unfold tokV hbB
  dsimp only
  by_cases h3 : kd = 3
  · subst h3
    go_enter Tryz.func103, Tryz.ntmps103
    go_wp2
    go_ret
    exact ⟨rfl, (Below.refl _ w).alloc (Nat.le_refl _) _⟩
  have b3 : (kd == 3) = false := beq_eq_false_iff_ne.2 h3
  by_cases h2 : kd = 2
  · subst h2
    go_enter Tryz.func103, Tryz.ntmps103
    go_wp2
    go_ret
    exact ⟨rfl, (Below.refl _ w).alloc (Nat.le_refl _) _⟩
  have b2 : (kd == 2) = false := beq_eq_false_iff_ne.2 h2
  rw [decide_eq_false h3, decide_eq_false h2]
  clear h3 h2
  go_enter Tryz.func103, Tryz.ntmps103
  go_wp2
  go_ret
  exact ⟨by rw [Bool.false_or]; rfl, (Below.refl _ w).alloc (Nat.le_refl _) _⟩
end Go.Proofs.YtmmnpnhffgpchaaGreatDoor

/-
  A grower begins a node.
-/
namespace Go.Proofs.YtmmnpnhffgpchaaGreatDoor
open Go.RowKit
set_option linter.unusedVariables false
set_option linter.unusedSimpArgs false
set_option maxRecDepth 100000
/-- what a grower's call may touch: the grower, its row of nodes, and what is new -/
structure Tg (w w' : World) (gp : Nat) (v : Value) : Prop where
  os : w'.os = w.os
  tape : w'.tape = w.tape
  output : w'.output = w.output
  size : w.heap.size ≤ w'.heap.size
  block : ∀ k, k < w.heap.size → k ≠ gp → v.ownBlock ≠ some k → w'.heap[k]? = w.heap[k]?
theorem Tg.of_but {w w' : World} {gp : Nat} (v : Value) (h : But gp w w') : Tg w w' gp v := ⟨h.os, h.tape, h.output, h.size, fun k hk hne _ => h.block k hk hne⟩
theorem Tg.of_below {w w' : World} (gp : Nat) (v : Value) (h : Below w.heap.size w w') : Tg w w' gp v := ⟨h.os, h.tape, h.output, h.size, fun k hk _ _ => h.block k hk⟩
theorem Tg.trans {w w1 w2 : World} {gp : Nat} {v v1 : Value} (h : Tg w w1 gp v) (h2 : Tg w1 w2 gp v1) (hv : v1.ownBlock = v.ownBlock ∨ ∀ r, v1.ownBlock = some r → w.heap.size ≤ r) : Tg w w2 gp v := by
  refine ⟨h2.os.trans h.os, h2.tape.trans h.tape, h2.output.trans h.output, Nat.le_trans h.size h2.size, fun k hk hg hne => ?_⟩
  refine (h2.block k (Nat.lt_of_lt_of_le hk h.size) hg (fun e => ?_)).trans (h.block k hk hg hne)
  rcases hv with e2 | e2
  · exact hne (e2 ▸ e)
  · have := e2 k e; omega
/-- a node appended -/
theorem Gs.begun {w w1 w2 : World} {base gp : Nat} {doc : Int} {g off n cap : Nat} {L : List Tk} {q : Nat} {v v' : Value} {os : List Nx} {me : Nx} {o : Obj} {mm : Nat} (h : Gs w base gp doc g off n cap L q v os) (hb : Below w.heap.size w w1) (hm : me.kv = .slice none 0 0 ∧ me.n = 0 ∧ me.ks = []) (hl : os.length < 4096)
    (hr : w2.ownsRow base 68 6 v' (os.length + 1) (rowsN os ++ me.row)) (hg : ((w1.alloc o).drewN mm).grownBy w2 v.ownBlock) (hat : v'.ownBlock = v.ownBlock ∨ v'.ownBlock = some ((w1.alloc o).drewN mm).heap.size) :
    Gs (w2.setCell ⟨gp, 2, none⟩ v') base gp doc g off n cap L q v' (os ++ [me]) ∧ Tg w (w2.setCell ⟨gp, 2, none⟩ v') gp v ∧ (v'.ownBlock = v.ownBlock ∨ ∀ r, v'.ownBlock = some r → w.heap.size ≤ r) := by
  have h1 := h.below hb
  have ht := Tch.of_grown hg
  have hnb : ∀ k, k < base → v.ownBlock ≠ some k := fun k hk e => by have := (h.own.row.lt k e).1; omega
  obtain ⟨oq, hbk, hoq⟩ := h1.blk
  have hgp := (ht.block gp (Nat.lt_of_lt_of_le h1.gplt h1.bw) (hnb gp h.gplt)).trans hbk
  have hgg := ht.block g (Nat.lt_of_lt_of_le h1.glt h1.bw) (hnb g h.glt)
  have hown : Own w2 base v' (os ++ [me]) := Own.snoc h1.own hr (fun x hx k hk => ht.block k ((h1.own.kids x hx).1.lt k hk).2 (h1.own.ne hx hk)) (by rw [hm.1, hm.2.1, hm.2.2]; exact ⟨by simp [iV], .inl ⟨rfl, rfl⟩⟩) (by rw [hm.2.1]; omega)
  refine ⟨{ h1 with
    blk := ⟨oq, by rw [heap_setCell_same w2 gp _ _ 80 _ hgp]; rfl, hoq⟩
    ts := fun i t hi j u hu => by
      rw [← h1.ts i t hi j u hu]
      exact World.cell?_of_block (w := w1) (a := ⟨g, off + i * 5 + j, none⟩) ((Below.heap_setCell _ _ _ _ (by show g ≠ gp; exact h.gne)).trans hgg)
    own := own_gp hown h.gplt 2 _
    few := by rw [List.length_append]; simp; omega
    bw := by have := h1.bw; have := ht.size; simp [World.setCell]; omega }, ?_, ?_⟩
  · refine ⟨ht.os.trans hb.os, ht.tape.trans hb.tape, ht.output.trans hb.output, by have := hb.size; have := ht.size; simp [World.setCell]; omega, fun k hk hne hv => ?_⟩
    rw [Below.heap_setCell _ _ _ _ (by show k ≠ gp; exact hne)]
    exact (ht.block k (Nat.lt_of_lt_of_le hk hb.size) hv).trans (hb.block k hk)
  · rcases hat with e | e
    · exact .inl e
    · refine .inr fun r hr2 => ?_
      rw [e] at hr2; cases hr2
      have := hb.size
      show w.heap.size ≤ (w1.alloc o).heap.size
      simp; omega
/-- the three stores -/
theorem upd3b {W : World} {s : Nat} {kd ln ln' : Int} {key tx : ByteArray} {quo : Bool} {u : Value} (hb : W.heap[s]? = some (.cells #[.int .i64 kd, .string key, .string tx, .bool quo, .int .i64 ln, u] 68 (0, 0))) :
    ((W.setCell ⟨s, 1, none⟩ (.string key)).cell? ⟨s, 1, none⟩ = some (.string key) ∧ (W.setCell ⟨s, 1, none⟩ (.string key)).cell? ⟨s, 2, none⟩ = some (.string tx) ∧ (W.setCell ⟨s, 1, none⟩ (.string key)).frozen? ⟨s, 2, none⟩ = false) ∧
    (((W.setCell ⟨s, 1, none⟩ (.string key)).setCell ⟨s, 2, none⟩ (.string tx)).cell? ⟨s, 1, none⟩ = some (.string key) ∧ ((W.setCell ⟨s, 1, none⟩ (.string key)).setCell ⟨s, 2, none⟩ (.string tx)).cell? ⟨s, 2, none⟩ = some (.string tx) ∧ ((W.setCell ⟨s, 1, none⟩ (.string key)).setCell ⟨s, 2, none⟩ (.string tx)).cell? ⟨s, 4, none⟩ = some (.int .i64 ln) ∧ ((W.setCell ⟨s, 1, none⟩ (.string key)).setCell ⟨s, 2, none⟩ (.string tx)).frozen? ⟨s, 4, none⟩ = false) ∧
    ((((W.setCell ⟨s, 1, none⟩ (.string key)).setCell ⟨s, 2, none⟩ (.string tx)).setCell ⟨s, 4, none⟩ (.int .i64 ln')).cell? ⟨s, 1, none⟩ = some (.string key) ∧ (((W.setCell ⟨s, 1, none⟩ (.string key)).setCell ⟨s, 2, none⟩ (.string tx)).setCell ⟨s, 4, none⟩ (.int .i64 ln')).cell? ⟨s, 2, none⟩ = some (.string tx)) ∧
    (((W.setCell ⟨s, 1, none⟩ (.string key)).setCell ⟨s, 2, none⟩ (.string tx)).setCell ⟨s, 4, none⟩ (.int .i64 ln')).heap[s]? = some (.cells #[.int .i64 kd, .string key, .string tx, .bool quo, .int .i64 ln', u] 68 (0, 0)) ∧
    (∀ k, k ≠ s → (((W.setCell ⟨s, 1, none⟩ (.string key)).setCell ⟨s, 2, none⟩ (.string tx)).setCell ⟨s, 4, none⟩ (.int .i64 ln')).heap[k]? = W.heap[k]?) := by
  have h1 := heap_setCell_same W s 1 _ 68 (.string key) hb
  have h2 := heap_setCell_same _ s 2 _ 68 (.string tx) h1
  have h3 := heap_setCell_same _ s 4 _ 68 (.int .i64 ln') h2
  refine ⟨⟨?_, ?_, ?_⟩, ⟨?_, ?_, ?_, ?_⟩, ⟨?_, ?_⟩, ?_, ?_⟩
  · rw [cell_block h1]; rfl
  · rw [cell_block h1]; rfl
  · simp [World.frozen?, h1]
  · rw [cell_block h2]; rfl
  · rw [cell_block h2]; rfl
  · rw [cell_block h2]; rfl
  · simp [World.frozen?, h2]
  · rw [cell_block h3]; rfl
  · rw [cell_block h3]; rfl
  · rw [h3]; rfl
  · intro k hk
    rw [Below.heap_setCell _ _ _ _ hk, Below.heap_setCell _ _ _ _ hk, Below.heap_setCell _ _ _ _ hk]
def nodV (kd : Int) (key tx : ByteArray) (quo : Bool) : Value := .agg #[.int .i64 kd, .string key, .string tx, .bool quo, .int .i64 0, .slice none 0 0]
set_option maxHeartbeats 8000000 in
theorem begin_ok (w : World) (base gp : Nat) (doc : Int) (g off n cap : Nat) (L : List Tk) (q : Nat) (v : Value) (os : List Nx) (t : Tk) (kd : Int) (key tx : ByteArray) (quo : Bool) (d : Int) (h : Gs w base gp doc g off n cap L q v os) (hd : d ≤ 16) (hl : os.length < 4096) (hs1 : key.size ≤ 281474976710656) (hs2 : tx.size ≤ 281474976710656) :
    Calls Tryz.prog 53 #[.pointer (some ⟨gp, 0, none⟩), tokV t, nodV kd key tx quo, .int .i64 d] w fun e w' => e = .returned (.int .i64 os.length) ∧ ∃ v', Gs w' base gp doc g off n cap L q v' (os ++ [bareN kd key tx quo t.line]) ∧ Tg w w' gp v ∧ (v'.ownBlock = v.ownBlock ∨ ∀ r, v'.ownBlock = some r → w.heap.size ≤ r) := by
  obtain ⟨oq, hblk, hoq⟩ := h.blk
  have z2 : w.cell? ⟨gp, 2, none⟩ = some v := by rw [cell_block hblk]; rfl
  obtain ⟨va, vc, hv, _, hvc, hvm⟩ := own_form h.own.row
  subst hv
  obtain ⟨N, hN⟩ : ∃ N, os.length = N := ⟨_, rfl⟩
  have HG := hideL h
  have HN := hideL hN
  have HGP : Hid (gp < w.heap.size) := Nat.lt_of_lt_of_le h.gplt h.bw
  have HS1 := hideL hs1
  have HS2 := hideL hs2
  rw [hN] at z2 hl hvc ⊢
  have hN2 : ((N : Int) == 4096) = false := by rw [beq_eq_false_iff_ne]; omega
  have z2b := fun X Y => cell_al (cell_al z2 X) Y
  obtain ⟨tkd, line, col, ttx, tquo⟩ := t
  unfold tokV nodV
  dsimp only at *
  clear h hN hblk hoq hs1 hs2
  go_enter Tryz.func53, Tryz.ntmps53
  go_upto_region 3 with (fail)
  obtain ⟨W0, hW0⟩ : ∃ W0, ((w.alloc (Obj.cells #[.int .i64 tkd, .int .i64 line, .int .i64 col, .string ttx, .bool tquo] 52)).alloc (Obj.cells #[.int .i64 kd, .string key, .string tx, .bool quo, .int .i64 0, .slice none 0 0] 68)) = W0 := ⟨_, rfl⟩
  have hb0 : W0.heap[w.heap.size]? = some (.cells #[.int .i64 tkd, .int .i64 line, .int .i64 col, .string ttx, .bool tquo] 52 (0, 0)) := by
    rw [← hW0, Below.heap_alloc _ _ _ (by simp)]; exact Go.heap_alloc_new _ _
  have hb1 : W0.heap[w.heap.size + 1]? = some (.cells #[.int .i64 kd, .string key, .string tx, .bool quo, .int .i64 0, .slice none 0 0] 68 (0, 0)) := by
    rw [← hW0]; exact alloc2_new _ _ _
  have HWB : Hid (Below w.heap.size w W0) := by rw [← hW0]; exact two_alloc _ _ _
  have HWS : Hid (w.heap.size + 2 ≤ W0.heap.size) := by have := (Array.getElem?_eq_some_iff.1 hb1).1; show _ ≤ _; omega
  rw [hW0]
  have k1 : W0.cell? ⟨w.heap.size + 1, 1, none⟩ = some (.string key) := by rw [cell_block hb1]; rfl
  have k2 : W0.cell? ⟨w.heap.size + 1, 2, none⟩ = some (.string tx) := by rw [cell_block hb1]; rfl
  have k3 : W0.cell? ⟨w.heap.size, 1, none⟩ = some (.int .i64 line) := by rw [cell_block hb0]; rfl
  have HBK : Hid (∀ W, Below W0.heap.size W0 W → W.heap[w.heap.size + 1]? = some (.cells #[.int .i64 kd, .string key, .string tx, .bool quo, .int .i64 0, .slice none 0 0] 68 (0, 0)) ∧ W.cell? ⟨w.heap.size + 1, 1, none⟩ = some (.string key) ∧ W.cell? ⟨w.heap.size + 1, 2, none⟩ = some (.string tx) ∧ W.cell? ⟨w.heap.size, 1, none⟩ = some (.int .i64 line) ∧ W.frozen? ⟨w.heap.size + 1, 1, none⟩ = false ∧ W.cell? ⟨w.heap.size + 1, 4, none⟩ = some (.int .i64 0)) := fun W hW => by
    have h1 := (hW.block _ (Array.getElem?_eq_some_iff.1 hb1).1).trans hb1
    have h0 := (hW.block _ (Array.getElem?_eq_some_iff.1 hb0).1).trans hb0
    refine ⟨h1, ?_, ?_, ?_, ?_, ?_⟩
    · rw [cell_block h1]; rfl
    · rw [cell_block h1]; rfl
    · rw [cell_block h0]; rfl
    · simp [World.frozen?, h1]
    · rw [cell_block h1]; rfl
  clear hW0 hb0 hb1 z2 z2b
  go_region_held3 (fun w' => w'.cell? ⟨w.heap.size + 1, 1, none⟩ = some (.string key) ∧ w'.cell? ⟨w.heap.size + 1, 2, none⟩ = some (.string tx) ∧ w'.cell? ⟨w.heap.size, 1, none⟩ = some (.int .i64 line)) (go_keep)
    (first | (go_at_call 50; refine (clone_any key _ HS1.out).mono ?_; rintro e w5 ⟨rfl, hb5⟩; have B5 : Hid (Below W0.heap.size W0 w5) := (below_drewN (Below.refl _ W0) 1).trans hb5; obtain ⟨-, m1, m2, m3, m4, m5⟩ := HBK.out w5 B5.out; clear hb5) | (go_at_call 50; refine (clone_any tx _ HS2.out).mono ?_; rintro e w6 ⟨rfl, hb6⟩; have B6 : Hid (Below W0.heap.size W0 w6) := B5.out.trans (hb6.mono B5.out.size); obtain ⟨l0, l1, l2, l3, l4, l5⟩ := HBK.out w6 B6.out; obtain ⟨⟨q1, q2, q3⟩, ⟨q4, q5, q6, q7⟩, ⟨q8, q9⟩, q10, q11⟩ := upd3b (ln' := line) l0; have HQ10 := hideL q10; have HQ11 := hideL q11; clear hb6 q10 q11 l0))
  obtain ⟨X, hX⟩ : ∃ X, (((w6.setCell ⟨w.heap.size + 1, 1, none⟩ (.string key)).setCell ⟨w.heap.size + 1, 2, none⟩ (.string tx)).setCell ⟨w.heap.size + 1, 4, none⟩ (.int .i64 line)) = X := ⟨_, rfl⟩
  have x10 := HQ10.out
  have x11 := HQ11.out
  rw [hX] at x10 x11 ⊢
  have HXB : Hid (Below w.heap.size w X) := by
    refine HWB.out.trans ?_
    have hb6 := B6.out
    have hs := HWS.out
    have hxs : X.heap.size = w6.heap.size := by rw [← hX]; simp [World.setCell]
    refine ⟨?_, ?_, ?_, by have := hb6.size; omega, fun k hk => (x11 k (by omega)).trans (hb6.block k (by omega))⟩
    · rw [← hX]; exact hb6.os
    · rw [← hX]; exact hb6.tape
    · rw [← hX]; exact hb6.output
  have hGX := HG.out.below HXB.out
  obtain ⟨oq2, hbx, -⟩ := hGX.blk
  rw [HN.out] at hbx
  have g2 : X.cell? ⟨gp, 2, none⟩ = some (.slice va N vc) := by rw [cell_block hbx]; rfl
  have x0 : X.cell? ⟨w.heap.size + 1, 0, none⟩ = some (.int .i64 kd) := by rw [cell_block x10]; rfl
  have x1 : X.cell? ⟨w.heap.size + 1, 1, none⟩ = some (.string key) := by rw [cell_block x10]; rfl
  have x2 : X.cell? ⟨w.heap.size + 1, 2, none⟩ = some (.string tx) := by rw [cell_block x10]; rfl
  have x3 : X.cell? ⟨w.heap.size + 1, 3, none⟩ = some (.bool quo) := by rw [cell_block x10]; rfl
  have x4 : X.cell? ⟨w.heap.size + 1, 4, none⟩ = some (.int .i64 line) := by rw [cell_block x10]; rfl
  have x5 : X.cell? ⟨w.heap.size + 1, 5, none⟩ = some (.slice none 0 0) := by rw [cell_block x10]; rfl
  have g2a := cell_al g2
  obtain ⟨i51, hi51, hx0, hx1, hx2⟩ := info_parts Tryz.info68
  have HOD : Hid ((X.alloc (Obj.cells #[.int .i64 kd, .string key, .string tx, .bool quo, .int .i64 line, .slice none 0 0] 68)).drew.ownsRow base 68 6 (.slice va N vc) N (rowsN os)) := by
    have h1 := hGX.own.row
    rw [HN.out] at h1
    exact h1.alloc _
  have HND : Hid (∀ j u, (bareN kd key tx quo line).row[j]? = some u → (X.alloc (Obj.cells #[.int .i64 kd, .string key, .string tx, .bool quo, .int .i64 line, .slice none 0 0] 68)).drew.cell? ((⟨X.heap.size, 0, none⟩ : Addr).add j) = some u) := World.news_of_block (w := (X.alloc (Obj.cells #[.int .i64 kd, .string key, .string tx, .bool quo, .int .i64 line, .slice none 0 0] 68)).drew) (Go.heap_alloc_new X _)
  have hszD : base ≤ (X.alloc (Obj.cells #[.int .i64 kd, .string key, .string tx, .bool quo, .int .i64 line, .slice none 0 0] 68)).drew.heap.size := Nat.le_trans hGX.bw (by show X.heap.size ≤ (X.alloc _).heap.size; simp)
  have hLm : N + 1 ≤ maxLen := by unfold maxLen; omega
  have hLb : (N + 1) * 80 ≤ 140737488355328 := by omega
  have HBX := hideL hbx
  have HGB := hideL (And.intro HG.out.gplt hGX.bw)
  have HOL : Hid (∀ k, k < base → (Value.slice va N vc).ownBlock ≠ some k) := fun k hk e => by
    have h1 := hGX.own.row
    rw [HN.out] at h1
    have := (h1.lt k e).1; omega
  clear hX x10 x11 hbx hGX k1 k2 k3 m1 m2 m3 m4 m5 l1 l2 l3 l4 l5 q1 q2 q3 q4 q5 q6 q7 q8 q9
  go_wp2_with (fail)
  go_region_law (refine step_append_at rfl (.tmp 37) (.tmp 39) 47 rfl base 68 i51 _ 6 80 Tryz.underlying47 hi51 hx0 hx1 hx2 rfl (by decide) (.slice va N vc) N (rowsN os) rfl HOD.out ⟨X.heap.size, 0, none⟩ 1 1 (bareN kd key tx quo line).row rfl rfl HND.out (row_one _) hLm hLb hszD ?_; intro v3 w3 hown3 hgrow3 hat3; have HB := hideL (Gs.begun (mm := 1) (me := bareN kd key tx quo line) HG.out HXB.out ⟨rfl, rfl, rfl⟩ (by rw [HN.out]; exact hl) (by rw [HN.out]; exact hown3) (by rw [HN.out]; exact hgrow3) (by rw [HN.out]; exact hat3)); have hg3 := ((Tch.of_grown hgrow3).block gp (Nat.lt_of_lt_of_le HGB.out.1 HGB.out.2) (HOL.out gp HGB.out.1)).trans HBX.out; have y2 : w3.cell? ⟨gp, 2, none⟩ = some (.slice va N vc) := (by rw [cell_block hg3]; rfl); have f2 : w3.frozen? ⟨gp, 2, none⟩ = false := (by simp [World.frozen?, hg3]); obtain ⟨a3, c3, rfl, _⟩ := own_form hown3; have hg4 := heap_setCell_same w3 gp 2 _ 80 (.slice a3 (N + 1) c3) hg3; have y4 : (w3.setCell ⟨gp, 2, none⟩ (.slice a3 (N + 1) c3)).cell? ⟨gp, 2, none⟩ = some (.slice a3 (N + 1) c3) := (by rw [cell_block hg4]; rfl); clear hown3 hgrow3 hat3 hg3 hg4)
  all_goals
    go_wp2
    go_ret
    have hfin := HB.out
    rw [HN.out] at hfin
    refine ⟨?_, .slice a3 (N + 1) c3, hfin.1, hfin.2.1, hfin.2.2⟩
    first
    | rfl
    | (congr 1; go_num)
set_option maxHeartbeats 4000000 in
theorem begin_bad (w : World) (base gp : Nat) (doc : Int) (g off n cap : Nat) (L : List Tk) (q : Nat) (v : Value) (os : List Nx) (t : Tk) (kd : Int) (key tx : ByteArray) (quo : Bool) (d : Int) (h : Gs w base gp doc g off n cap L q v os) (hd : 16 < d ∨ os.length = 4096) :
    Calls Tryz.prog 53 #[.pointer (some ⟨gp, 0, none⟩), tokV t, nodV kd key tx quo, .int .i64 d] w fun e w' => e = wrongE doc t.line 92 ∧ Below w.heap.size w w' := by
  obtain ⟨oq, hblk, hoq⟩ := h.blk
  have z2 : w.cell? ⟨gp, 2, none⟩ = some v := by rw [cell_block hblk]; rfl
  obtain ⟨va, vc, hv, _, hvc, hvm⟩ := own_form h.own.row
  subst hv
  have HG := hideL h
  have z2b := fun X Y => cell_al (cell_al z2 X) Y
  have HB2 : Hid (∀ A B : Obj, Below w.heap.size w ((w.alloc A).alloc B)) := fun A B => two_alloc _ _ _
  have HU : Hid (∀ (A B : Obj), Calls Tryz.prog 32 #[.pointer (some ⟨gp, 0, none⟩), tokV t, .int .i64 92] ((w.alloc A).alloc B) fun e w' => e = wrongE doc t.line 92 ∧ Below ((w.alloc A).alloc B).heap.size ((w.alloc A).alloc B) w') := fun A B => giveUp_any _ base gp doc g off n cap L q _ os t 92 (HG.out.below (two_alloc _ _ _))
  obtain ⟨tkd, line, col, ttx, tquo⟩ := t
  unfold tokV nodV at *
  unfold wrongE at *
  dsimp only at *
  obtain ⟨N, hN⟩ : ∃ N, os.length = N := ⟨_, rfl⟩
  rw [hN] at hd hvc z2b
  clear h hN hblk hoq z2
  by_cases h16 : 16 < d
  · clear hd
    go_enter Tryz.func53, Tryz.ntmps53
    go_wp2_with (go_at_call 32; refine (HU.out _ _).mono ?_; rintro e w1 ⟨rfl, hb1⟩)
    exact ⟨rfl, rfl, (HB2.out _ _).trans (hb1.mono (HB2.out _ _).size)⟩
  · have hN2 : N = 4096 := by omega
    subst hN2
    clear hd
    go_enter Tryz.func53, Tryz.ntmps53
    go_wp2_with (go_at_call 32; refine (HU.out _ _).mono ?_; rintro e w1 ⟨rfl, hb1⟩)
    exact ⟨rfl, rfl, (HB2.out _ _).trans (hb1.mono (HB2.out _ _).size)⟩
end Go.Proofs.YtmmnpnhffgpchaaGreatDoor

/-
  Whether a token begins the value of another.
-/
namespace Go.Proofs.YtmmnpnhffgpchaaGreatDoor
open Go.RowKit
set_option linter.unusedVariables false
set_option linter.unusedSimpArgs false
set_option maxRecDepth 100000
theorem ret_bool {a b : Bool} (h : a = b) : Ending.returned (.bool a) = .returned (.bool b) := by rw [h]
theorem hb_iff (t : Tk) : hbB t = decide (2 ≤ t.kd ∧ t.kd ≤ 4) := by
  unfold hbB
  by_cases h : 2 ≤ t.kd ∧ t.kd ≤ 4
  · rw [decide_eq_true h]
    simp only [Bool.or_eq_true, decide_eq_true_eq]
    omega
  · rw [decide_eq_false h]
    simp only [Bool.or_eq_false_iff, decide_eq_false_iff_not]
    omega
/-- a cell of one of two new blocks, later -/
theorem new_cell {w W w1 : World} {A B : Array Value} {m : Nat} (hW : W = ((w.alloc (.cells A 52)).alloc (.cells B 52)).drewN m) (hb : Below W.heap.size W w1) : (∀ (j : Nat) (u : Value), A[j]? = some u → w1.cell? ⟨w.heap.size, j, none⟩ = some u) ∧ (∀ (j : Nat) (u : Value), B[j]? = some u → w1.cell? ⟨w.heap.size + 1, j, none⟩ = some u) := by
  subst hW
  have h0 : ((w.alloc (.cells A 52)).alloc (.cells B 52)).heap[w.heap.size]? = some (.cells A 52 (0, 0)) := by
    rw [Below.heap_alloc _ _ _ (by simp)]; exact Go.heap_alloc_new _ _
  have h1 : ((w.alloc (.cells A 52)).alloc (.cells B 52)).heap[w.heap.size + 1]? = some (.cells B 52 (0, 0)) := alloc2_new _ _ _
  constructor
  · intro j u hu
    rw [cell_block ((hb.block _ (Array.getElem?_eq_some_iff.1 h0).1).trans h0)]; exact hu
  · intro j u hu
    rw [cell_block ((hb.block _ (Array.getElem?_eq_some_iff.1 h1).1).trans h1)]; exact hu
set_option maxHeartbeats 2000000 in
theorem isValue_any (t u : Tk) (w : World) (hu : u.kd = 2 ∨ u.kd = 3) : Calls Tryz.prog 93 #[tokV t, tokV u] w fun e w' => e = .returned (.bool (isVal u t)) ∧ Below w.heap.size w w' := by
  have hB := fun W => hasBlock_any t W
  have HV : Hid (isVal u t = (hbB t && ((decide (u.kd = 3) && ((decide (t.line = u.line) && decide (t.kd = 4)) || (!decide (t.line = u.line) && (decide (u.col < t.col) || (decide (t.kd = 2) && decide (t.col = u.col)))))) || (decide (u.kd = 2) && (decide (t.line = u.line) || decide (u.col < t.col)))))) := by
    show _ = _
    unfold isVal
    rw [hb_iff]
  have HB0 := hideL hB
  clear hB
  generalize hbB t = hb at *
  generalize isVal u t = iv at *
  obtain ⟨kd, line, col, tx, quo⟩ := t
  obtain ⟨ukd, uline, ucol, utx, uquo⟩ := u
  unfold tokV at *
  dsimp only at *
  have HB2 : Hid (∀ A B : Obj, Below w.heap.size w ((w.alloc A).alloc B)) := fun A B => two_alloc _ _ _
  cases hb with
  | false =>
    have HV2 : Hid (iv = false) := by show _ = _; rw [HV.out]; rfl
    clear HV hu
    go_enter Tryz.func93, Tryz.ntmps93
    go_wp2
    go_quiet (fail)
    go_wp2_with (go_at_call 103; refine (HB0.out _).mono ?_; rintro e w1 ⟨rfl, hb1⟩)
    go_ret
    exact ⟨by rw [HV2.out]; rfl, (below_drewN (HB2.out _ _) _).trans (hb1.mono (HB2.out _ _).size)⟩
  | true =>
    rcases hu with rfl | rfl
    · cases h1 : (line == uline) with
      | true =>
        have HV2 : Hid (iv = true) := by
          show _ = _
          rw [HV.out, decide_eq_true (beq_iff_eq.1 h1)]
          rfl
        clear HV
        go_enter Tryz.func93, Tryz.ntmps93
        go_wp2
        go_quiet (fail)
        go_wp2_with (go_at_call 103; refine (HB0.out _).mono ?_; rintro e w1 ⟨rfl, hb1⟩; obtain ⟨na, nb⟩ := new_cell rfl hb1; have a0 := na 0 _ rfl; have a2 := na 2 _ rfl; have b0 := nb 0 _ rfl; have b2 := nb 2 _ rfl; clear na nb)
        go_ret
        exact ⟨ret_bool (by first | (rw [HV2.out]; done) | (rw [HV2.out]; rfl) | (rw [HV2.out]; simp; done) | (rw [HV2.out]; simp; omega) | (rw [HV2.out, decide_eq_false (show ¬ ucol < col by omega), Bool.false_or]; rfl)), (below_drewN (HB2.out _ _) _).trans (hb1.mono (HB2.out _ _).size)⟩
      | false =>
        have HV2 : Hid (iv = decide (ucol < col)) := by
          show _ = _
          rw [HV.out, decide_eq_false (beq_eq_false_iff_ne.1 h1)]
          simp
        clear HV
        go_enter Tryz.func93, Tryz.ntmps93
        go_wp2
        go_quiet (fail)
        go_wp2_with (go_at_call 103; refine (HB0.out _).mono ?_; rintro e w1 ⟨rfl, hb1⟩; obtain ⟨na, nb⟩ := new_cell rfl hb1; have a0 := na 0 _ rfl; have a2 := na 2 _ rfl; have b0 := nb 0 _ rfl; have b2 := nb 2 _ rfl; clear na nb)
        go_ret
        exact ⟨ret_bool (by first | (rw [HV2.out]; done) | (rw [HV2.out]; rfl) | (rw [HV2.out]; simp; done) | (rw [HV2.out]; simp; omega) | (rw [HV2.out, decide_eq_false (show ¬ ucol < col by omega), Bool.false_or]; rfl)), (below_drewN (HB2.out _ _) _).trans (hb1.mono (HB2.out _ _).size)⟩
    · cases h1 : (line == uline) with
      | true =>
        have HV2 : Hid (iv = decide (kd = 4)) := by
          show _ = _
          rw [HV.out, decide_eq_true (beq_iff_eq.1 h1)]
          simp
        clear HV
        go_enter Tryz.func93, Tryz.ntmps93
        go_wp2
        go_quiet (fail)
        go_wp2_with (go_at_call 103; refine (HB0.out _).mono ?_; rintro e w1 ⟨rfl, hb1⟩; obtain ⟨na, nb⟩ := new_cell rfl hb1; have a0 := na 0 _ rfl; have a2 := na 2 _ rfl; have b0 := nb 0 _ rfl; have b2 := nb 2 _ rfl; clear na nb)
        go_ret
        exact ⟨ret_bool (by first | (rw [HV2.out]; done) | (rw [HV2.out]; rfl) | (rw [HV2.out]; simp; done) | (rw [HV2.out]; simp; omega) | (rw [HV2.out, decide_eq_false (show ¬ ucol < col by omega), Bool.false_or]; rfl)), (below_drewN (HB2.out _ _) _).trans (hb1.mono (HB2.out _ _).size)⟩
      | false =>
        by_cases h2 : ucol < col
        · have HV2 : Hid (iv = true) := by
            show _ = _
            rw [HV.out, decide_eq_false (beq_eq_false_iff_ne.1 h1), decide_eq_true h2]
            rfl
          clear HV
          go_enter Tryz.func93, Tryz.ntmps93
          go_wp2
          go_quiet (fail)
          go_wp2_with (go_at_call 103; refine (HB0.out _).mono ?_; rintro e w1 ⟨rfl, hb1⟩; obtain ⟨na, nb⟩ := new_cell rfl hb1; have a0 := na 0 _ rfl; have a2 := na 2 _ rfl; have b0 := nb 0 _ rfl; have b2 := nb 2 _ rfl; clear na nb)
          go_ret
          exact ⟨ret_bool (by first | (rw [HV2.out]; done) | (rw [HV2.out]; rfl) | (rw [HV2.out]; simp; done) | (rw [HV2.out]; simp; omega) | (rw [HV2.out, decide_eq_false (show ¬ ucol < col by omega), Bool.false_or]; rfl)), (below_drewN (HB2.out _ _) _).trans (hb1.mono (HB2.out _ _).size)⟩
        · cases h3 : (kd == 2) with
          | true =>
            have HV2 : Hid (iv = decide (col = ucol)) := by
              show _ = _
              rw [HV.out, decide_eq_false (beq_eq_false_iff_ne.1 h1), decide_eq_false h2, decide_eq_true (beq_iff_eq.1 h3)]
              simp
            clear HV
            go_enter Tryz.func93, Tryz.ntmps93
            go_wp2
            go_quiet (fail)
            go_wp2_with (go_at_call 103; refine (HB0.out _).mono ?_; rintro e w1 ⟨rfl, hb1⟩; obtain ⟨na, nb⟩ := new_cell rfl hb1; have a0 := na 0 _ rfl; have a2 := na 2 _ rfl; have b0 := nb 0 _ rfl; have b2 := nb 2 _ rfl; clear na nb)
            go_ret
            exact ⟨ret_bool (by first | (rw [HV2.out]; done) | (rw [HV2.out]; rfl) | (rw [HV2.out]; simp; done) | (rw [HV2.out]; simp; omega) | (rw [HV2.out, decide_eq_false (show ¬ ucol < col by omega), Bool.false_or]; rfl)), (below_drewN (HB2.out _ _) _).trans (hb1.mono (HB2.out _ _).size)⟩
          | false =>
            have HV2 : Hid (iv = false) := by
              show _ = _
              rw [HV.out, decide_eq_false (beq_eq_false_iff_ne.1 h1), decide_eq_false h2, decide_eq_false (beq_eq_false_iff_ne.1 h3)]
              rfl
            clear HV
            go_enter Tryz.func93, Tryz.ntmps93
            go_wp2
            go_quiet (fail)
            go_wp2_with (go_at_call 103; refine (HB0.out _).mono ?_; rintro e w1 ⟨rfl, hb1⟩; obtain ⟨na, nb⟩ := new_cell rfl hb1; have a0 := na 0 _ rfl; have a2 := na 2 _ rfl; have b0 := nb 0 _ rfl; have b2 := nb 2 _ rfl; clear na nb)
            go_ret
            exact ⟨ret_bool (by first | (rw [HV2.out]; done) | (rw [HV2.out]; rfl) | (rw [HV2.out]; simp; done) | (rw [HV2.out]; simp; omega) | (rw [HV2.out, decide_eq_false (show ¬ ucol < col by omega), Bool.false_or]; rfl)), (below_drewN (HB2.out _ _) _).trans (hb1.mono (HB2.out _ _).size)⟩
end Go.Proofs.YtmmnpnhffgpchaaGreatDoor
