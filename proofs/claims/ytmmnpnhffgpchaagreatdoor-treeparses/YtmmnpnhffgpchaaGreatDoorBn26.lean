import Derived.Test.YtmmnpnhffgpchaaGreatDoorBn24
import Derived.Test.YtmmnpnhffgpchaaGreatDoorBn25
import Derived.WalkLawsBesides
import Derived.Deep.DeepCutAuto
import Derived.BigQuiet
import Derived.Deep.RegionHeld3
/-
  A grower in memory; its take, isNext and giveUp.
-/
namespace Go.Proofs.YtmmnpnhffgpchaaGreatDoor
open Go.RowKit
set_option linter.unusedVariables false
set_option linter.unusedSimpArgs false
set_option maxRecDepth 100000
/-- a grower: its document's number, the tokens that are left, the nodes that it has made -/
structure Gs (w : World) (base gp : Nat) (doc : Int) (g off n cap : Nat) (L : List Tk) (q : Nat) (v : Value) (os : List Nx) : Prop where
  blk : ∃ oq, w.heap[gp]? = some (.cells #[.int .i64 doc, .slice (some ⟨g, oq, none⟩) (n - q) (cap - q), v] 80 (0, 0)) ∧ (q < n → oq = off + q * 5)
  ts : ∀ (i : Nat) (t : Tk), L[i]? = some t → ∀ (j : Nat) (u : Value), t.row[j]? = some u → w.cell? ⟨g, off + i * 5 + j, none⟩ = some u
  str : ∀ t ∈ L, t.tx.size ≤ 281474976710656
  len : L.length = n
  small : n ≤ 17592186043904
  ncap : n ≤ cap
  cape : cap ≤ 9223372036854775807
  q : q ≤ n
  gne : g ≠ gp
  glt : g < base
  gplt : gp < base
  own : Own w base v os
  few : os.length ≤ 4096
  bw : base ≤ w.heap.size
theorem Gs.free {w : World} {base gp : Nat} {doc : Int} {g off n cap : Nat} {L : List Tk} {q : Nat} {v : Value} {os : List Nx} (h : Gs w base gp doc g off n cap L q v os) (o : Nat) : w.frozen? ⟨gp, o, none⟩ = false := by
  obtain ⟨oq, hb, _⟩ := h.blk
  simp [World.frozen?, hb]
/-- the next token's cells -/
theorem Gs.tok {w : World} {base gp : Nat} {doc : Int} {g off n cap : Nat} {L : List Tk} {q : Nat} {v : Value} {os : List Nx} (h : Gs w base gp doc g off n cap L q v os) {t : Tk} (ht : L[q]? = some t) :
    w.cell? ⟨g, off + q * 5, none⟩ = some (.int .i64 t.kd) ∧ w.cell? ⟨g, off + q * 5 + 1, none⟩ = some (.int .i64 t.line) ∧ w.cell? ⟨g, off + q * 5 + 2, none⟩ = some (.int .i64 t.col) ∧ w.cell? ⟨g, off + q * 5 + 3, none⟩ = some (.string t.tx) ∧ w.cell? ⟨g, off + q * 5 + 4, none⟩ = some (.bool t.quo) :=
  ⟨h.ts q t ht 0 _ rfl, h.ts q t ht 1 _ rfl, h.ts q t ht 2 _ rfl, h.ts q t ht 3 _ rfl, h.ts q t ht 4 _ rfl⟩
/-- what only grows keeps it -/
theorem Gs.below {w w' : World} {base gp : Nat} {doc : Int} {g off n cap : Nat} {L : List Tk} {q : Nat} {v : Value} {os : List Nx} (h : Gs w base gp doc g off n cap L q v os) (hb : Below w.heap.size w w') : Gs w' base gp doc g off n cap L q v os :=
  { h with
    blk := by
      obtain ⟨oq, h1, h2⟩ := h.blk
      exact ⟨oq, (hb.block gp (Nat.lt_of_lt_of_le h.gplt h.bw)).trans h1, h2⟩
    ts := fun i t hi j u hu => by
      rw [← h.ts i t hi j u hu]
      exact World.cell?_of_block (w := w) (a := ⟨g, off + i * 5 + j, none⟩) (hb.block g (Nat.lt_of_lt_of_le h.glt h.bw))
    own := h.own.below hb
    bw := Nat.le_trans h.bw hb.size }
theorem own_gp {w : World} {base gp : Nat} {v : Value} {os : List Nx} (h : Own w base v os) (hg : gp < base) (o : Nat) (u : Value) : Own (w.setCell ⟨gp, o, none⟩ u) base v os :=
  h.keep (fun k hk => Below.heap_setCell _ _ _ _ (by have := (h.row.lt k hk).1; show k ≠ gp; omega)) (fun x hx k hk => Below.heap_setCell _ _ _ _ (by have := ((h.kids x hx).1.lt k hk).1; show k ≠ gp; omega))
/-- the grower turned, all else as it was -/
theorem Gs.next {w F : World} {base gp : Nat} {doc : Int} {g off n cap : Nat} {L : List Tk} {q q' o2 : Nat} {v : Value} {os : List Nx} (h : Gs w base gp doc g off n cap L q v os) (hb : But gp w F) (hq : q' ≤ n) (hF : F.heap[gp]? = some (.cells #[.int .i64 doc, .slice (some ⟨g, o2, none⟩) (n - q') (cap - q'), v] 80 (0, 0))) (ho : q' < n → o2 = off + q' * 5) : Gs F base gp doc g off n cap L q' v os :=
  { h with
    blk := ⟨o2, hF, ho⟩
    ts := fun i t hi j u hu => by
      rw [← h.ts i t hi j u hu]
      exact World.cell?_of_block (w := w) (a := ⟨g, off + i * 5 + j, none⟩) (hb.block g (Nat.lt_of_lt_of_le h.glt h.bw) h.gne)
    q := hq
    own := h.own.keep (fun k hk => hb.block k (h.own.row.lt k hk).2 (by have := (h.own.row.lt k hk).1; have := h.gplt; omega)) (fun x hx k hk => hb.block k ((h.own.kids x hx).1.lt k hk).2 (by have := ((h.own.kids x hx).1.lt k hk).1; have := h.gplt; omega))
    bw := Nat.le_trans h.bw hb.size }
theorem res39 {fn : Func} {p : Tmp} (h : fn.results = #[.cell p 52]) (tmps : Array Value) (W : World) (g : Nat) (cs : Array Value) (hp : tmps.getD p undef = .pointer (some ⟨g, 0, none⟩)) (hg : W.heap[g]? = some (.cells cs 52 (0, 0))) (hc : cs.size = 5) :
    (results fn tmps).run Tryz.prog W = .ok (.agg cs) W := by
  have hu : (match Tryz.prog.underlying 52 with | some (.struct _) => true | _ => false) = true := by kernel_rfl
  rcases hd : Tryz.prog.underlying 52 with _ | d
  · rw [hd] at hu; cases hu
  · rw [hd] at hu
    have hi : (Tryz.prog.info? 52).map (·.size) = some 5 := by kernel_rfl
    refine results_cell_row h tmps W g 52 cs (0, 0) d hp hg hd ?_ (by rw [hc]; exact hi)
    cases d <;> first | rfl | (cases hu)
theorem cell_al {w : World} {a : Addr} {u : Value} (h : w.cell? a = some u) (X : Obj) : (w.alloc X).cell? a = some u := by
  rw [← h]
  exact World.cell?_of_block (w := w) (a := a) (Below.heap_alloc w X a.block (World.block_lt_of_cell? w a h))
theorem frz_al {w : World} {a : Addr} {u : Value} (hc : w.cell? a = some u) (h : w.frozen? a = false) (X : Obj) : (w.alloc X).frozen? a = false := by
  rw [← h]
  have := Below.heap_alloc w X a.block (World.block_lt_of_cell? w a hc)
  simp [World.frozen?, this]
def tokV (t : Tk) : Value := .agg #[.int .i64 t.kd, .int .i64 t.line, .int .i64 t.col, .string t.tx, .bool t.quo]
theorem setT {W : World} {g : Nat} {a b c d e : Value} {t : TypeId} (h : W.heap[g]? = some (.cells #[a, b, c, d, e] t (0, 0))) (v0 v1 v2 v3 v4 : Value) :
    (((((W.setCell ⟨g, 0, none⟩ v0).setCell ⟨g, 1, none⟩ v1).setCell ⟨g, 2, none⟩ v2).setCell ⟨g, 3, none⟩ v3).setCell ⟨g, 4, none⟩ v4).heap[g]? = some (.cells #[v0, v1, v2, v3, v4] t (0, 0)) ∧ But g W (((((W.setCell ⟨g, 0, none⟩ v0).setCell ⟨g, 1, none⟩ v1).setCell ⟨g, 2, none⟩ v2).setCell ⟨g, 3, none⟩ v3).setCell ⟨g, 4, none⟩ v4) := by
  have h0 := heap_setCell_same W g 0 _ t v0 h
  have h1 := heap_setCell_same _ g 1 _ t v1 h0
  have h2 := heap_setCell_same _ g 2 _ t v2 h1
  have h3 := heap_setCell_same _ g 3 _ t v3 h2
  have h4 := heap_setCell_same _ g 4 _ t v4 h3
  exact ⟨by rw [h4]; simp, ((((But.set 0 v0).trans (But.set 1 v1)).trans (But.set 2 v2)).trans (But.set 3 v3)).trans (But.set 4 v4)⟩
theorem cells5 {W : World} {g : Nat} {a b c d e : Value} {t : TypeId} (h : W.heap[g]? = some (.cells #[a, b, c, d, e] t (0, 0))) :
    (W.cell? ⟨g, 0, none⟩ = some a ∧ W.cell? ⟨g, 1, none⟩ = some b ∧ W.cell? ⟨g, 2, none⟩ = some c ∧ W.cell? ⟨g, 3, none⟩ = some d ∧ W.cell? ⟨g, 4, none⟩ = some e) ∧ (∀ o, W.frozen? ⟨g, o, none⟩ = false) := by
  refine ⟨⟨?_, ?_, ?_, ?_, ?_⟩, fun o => by simp [World.frozen?, h]⟩ <;> rw [cell_block h] <;> rfl
theorem But.trans' {gp : Nat} {w X Y : World} (h : But gp w X) (h2 : But w.heap.size X Y) (hg : gp < w.heap.size) : But gp w Y :=
  ⟨h2.os.trans h.os, h2.tape.trans h.tape, h2.output.trans h.output, Nat.le_trans h.size h2.size, fun j hj hne => (h2.block j (Nat.lt_of_lt_of_le hj h.size) (by omega)).trans (h.block j hj hne)⟩
set_option maxHeartbeats 2000000 in
theorem take_any (w : World) (base gp : Nat) (doc : Int) (g off n cap : Nat) (L : List Tk) (q : Nat) (v : Value) (os : List Nx) (t : Tk) (h : Gs w base gp doc g off n cap L q v os) (hq : q < n) (ht : L[q]? = some t) :
    Calls Tryz.prog 54 #[.pointer (some ⟨gp, 0, none⟩)] w fun e w' => e = .returned (tokV t) ∧ Gs w' base gp doc g off n cap L (q + 1) v os ∧ But gp w w' := by
  obtain ⟨oq, hblk, hoq⟩ := h.blk
  have hoq := hoq hq
  have z1 : w.cell? ⟨gp, 1, none⟩ = some (.slice (some ⟨g, oq, none⟩) (n - q) (cap - q)) := by rw [cell_block hblk]; rfl
  obtain ⟨y0, y1, y2, y3, y4⟩ := h.tok ht
  rw [← hoq] at y0 y1 y2 y3 y4
  have f1 := h.free 1
  have HG := hideL h
  have HGP : Hid (gp < w.heap.size) := Nat.lt_of_lt_of_le h.gplt h.bw
  have HQ := hideL (And.intro hq hoq)
  have hnc := h.ncap
  have hce := h.cape
  obtain ⟨m, hm⟩ : ∃ m, n - q = m := ⟨_, rfl⟩
  obtain ⟨c, hc⟩ : ∃ c, cap - q = c := ⟨_, rfl⟩
  rw [hm, hc] at z1
  have m1 : 1 ≤ m := by omega
  have mc : m ≤ c := by omega
  have cb : c ≤ 9223372036854775807 := by omega
  have i1 : (1 : Int) ≤ (m : Int) := by omega
  have i2 : (0 : Int) < (m : Int) := by omega
  have HMC := hideL (And.intro hm hc)
  unfold tokV
  obtain ⟨kd, line, col, tx, quo⟩ := t
  dsimp only at *
  have z1a := cell_al z1
  have y0a := cell_al y0
  have y1a := cell_al y1
  have y2a := cell_al y2
  have y3a := cell_al y3
  have y4a := cell_al y4
  have z1b := fun X Y => cell_al (cell_al z1 X) Y
  have f1b := fun X Y => frz_al (cell_al z1 X) (frz_al z1 f1 X) Y
  have HF : Hid (∀ (u : Value) (A B : Array Value) (X : World), (((w.alloc (.cells A 52)).alloc (.cells B 52)).setCell ⟨gp, 1, none⟩ u) = X → X.heap[gp]? = some (.cells #[.int .i64 doc, u, v] 80 (0, 0)) ∧ X.heap[w.heap.size]? = some (.cells A 52 (0, 0)) ∧ X.heap[w.heap.size + 1]? = some (.cells B 52 (0, 0)) ∧ But gp w X) := by
    rintro u A B X rfl
    have hb2 : Below w.heap.size w ((w.alloc (.cells A 52)).alloc (.cells B 52)) := two_alloc _ _ _
    have hg := HGP.out
    refine ⟨?_, ?_, ?_, (But.of_below hb2).trans (But.set 1 _)⟩
    · rw [heap_setCell_same _ gp _ _ 80 _ ((hb2.block gp hg).trans hblk)]; rfl
    · rw [Below.heap_setCell _ _ _ _ (by show w.heap.size ≠ gp; omega), Below.heap_alloc _ _ _ (by simp)]
      exact Go.heap_alloc_new _ _
    · rw [Below.heap_setCell _ _ _ _ (by show w.heap.size + 1 ≠ gp; omega)]
      exact alloc2_new _ _ _
  clear h hm hc hnc hce hq ht hblk hoq
  by_cases hc1 : c = 1
  · subst hc1
    have hm1 : m = 1 := by omega
    subst hm1
    go_enter Tryz.func54, Tryz.ntmps54
    go_upto_region 3 with (fail)
    obtain ⟨X, hX⟩ : ∃ X, (((w.alloc (Obj.cells #[.int .i64 0, .int .i64 0, .int .i64 0, .string { data := #[] }, .bool false] 52)).alloc (Obj.cells #[.int .i64 kd, .int .i64 line, .int .i64 col, .string tx, .bool quo] 52)).setCell ⟨gp, 1, none⟩ (.slice (some ⟨g, oq, none⟩) 0 0)) = X := ⟨_, rfl⟩
    obtain ⟨x0, x1, x2, x3⟩ := HF.out _ _ _ X hX
    rw [hX]
    obtain ⟨⟨s0, s1, s2, s3, s4⟩, fs⟩ := cells5 x1
    obtain ⟨⟨t0, t1, t2, t3, t4⟩, -⟩ := cells5 x2
    have q0 := fs 0
    have q1 := fs 1
    have q2 := fs 2
    have q3 := fs 3
    have q4 := fs 4
    have HX := hideL (And.intro x0 (And.intro x1 x3))
    clear hX x0 x1 x2 x3 fs z1 z1a y0 y1 y2 y3 y4 y0a y1a y2a y3a y4a z1b f1b f1
    go_wp2_with (fail)
    obtain ⟨hs, hbs⟩ := setT HX.out.2.1 (.int .i64 kd) (.int .i64 line) (.int .i64 col) (.string tx) (.bool quo)
    refine bodyPost_ret (res39 rfl _ _ w.heap.size _ rfl hs rfl) rfl ⟨rfl, ?_, ?_⟩
    · refine HG.out.next (q' := q + 1) (o2 := oq) ?_ (by have := HQ.out; omega) ?_ (fun hh => by have := HQ.out; have := HMC.out; omega)
      · exact HX.out.2.2.trans' hbs HGP.out
      · have hg := HGP.out
        have hm := HMC.out
        rw [hbs.block gp (Nat.lt_of_lt_of_le hg HX.out.2.2.size) (by omega), HX.out.1, show n - (q + 1) = 0 by omega, show cap - (q + 1) = 0 by omega]
    · exact HX.out.2.2.trans' hbs HGP.out
  · have hc2 : 1 < c := by omega
    go_enter Tryz.func54, Tryz.ntmps54
    go_upto_region 3 with (fail)
    obtain ⟨X, hX⟩ : ∃ X, (((w.alloc (Obj.cells #[.int .i64 0, .int .i64 0, .int .i64 0, .string { data := #[] }, .bool false] 52)).alloc (Obj.cells #[.int .i64 kd, .int .i64 line, .int .i64 col, .string tx, .bool quo] 52)).setCell ⟨gp, 1, none⟩ (.slice (some ⟨g, (oq + 5), none⟩) (m - 1) (c - 1))) = X := ⟨_, rfl⟩
    obtain ⟨x0, x1, x2, x3⟩ := HF.out _ _ _ X hX
    rw [hX]
    obtain ⟨⟨s0, s1, s2, s3, s4⟩, fs⟩ := cells5 x1
    obtain ⟨⟨t0, t1, t2, t3, t4⟩, -⟩ := cells5 x2
    have q0 := fs 0
    have q1 := fs 1
    have q2 := fs 2
    have q3 := fs 3
    have q4 := fs 4
    have HX := hideL (And.intro x0 (And.intro x1 x3))
    clear hX x0 x1 x2 x3 fs z1 z1a y0 y1 y2 y3 y4 y0a y1a y2a y3a y4a z1b f1b f1
    go_wp2_with (fail)
    obtain ⟨hs, hbs⟩ := setT HX.out.2.1 (.int .i64 kd) (.int .i64 line) (.int .i64 col) (.string tx) (.bool quo)
    refine bodyPost_ret (res39 rfl _ _ w.heap.size _ rfl hs rfl) rfl ⟨rfl, ?_, ?_⟩
    · refine HG.out.next (q' := q + 1) (o2 := (oq + 5)) ?_ (by have := HQ.out; omega) ?_ (fun hh => by have := HQ.out; have := HMC.out; omega)
      · exact HX.out.2.2.trans' hbs HGP.out
      · have hg := HGP.out
        have hm := HMC.out
        rw [hbs.block gp (Nat.lt_of_lt_of_le hg HX.out.2.2.size) (by omega), HX.out.1, show n - (q + 1) = m - 1 by omega, show cap - (q + 1) = c - 1 by omega]
    · exact HX.out.2.2.trans' hbs HGP.out
end Go.Proofs.YtmmnpnhffgpchaaGreatDoor

/-
  The document's value: of a Key or an Item that was taken.
-/
namespace Go.Proofs.YtmmnpnhffgpchaaGreatDoor
open Go.RowKit
set_option linter.unusedVariables false
set_option linter.unusedSimpArgs false
set_option maxRecDepth 100000
/-- what block and value answer -/
def RrE (w : World) (rp : Nat) (a : Option Addr) (n cap : Nat) (L : List Tk) (r : Rr) (e : Ending) (w' : World) : Prop := match r with
  | .ok t q m => ∃ p, e = .returned (.pointer (some ⟨p, 0, none⟩)) ∧ TrIn w' (fun k => w.heap.size ≤ k ∧ k < w'.heap.size) t p ∧ Rg w' rp a n cap L q 0 0 m ∧ But rp w w'
  | .bad l er q m => e = .returned (.pointer none) ∧ Rg w' rp a n cap L q l er m ∧ But rp w w'
/-- the same, from a later world on -/
theorem RrE.later {w w1 w' : World} {rp : Nat} {a : Option Addr} {n cap : Nat} {L : List Tk} {r : Rr} {e : Ending} (h : RrE w1 rp a n cap L r e w') (hb : But rp w w1) : RrE w rp a n cap L r e w' := by
  cases r with
  | ok t q m =>
    obtain ⟨p, h1, h2, h3, h4⟩ := h
    exact ⟨p, h1, TrIn.turn (fun k hk => ⟨Nat.le_trans hb.size hk.1, hk.2⟩) (fun k hk => rfl) t p h2, h3, hb.trans h4⟩
  | bad l er q m =>
    obtain ⟨h1, h2, h3⟩ := h
    exact ⟨h1, h2, hb.trans h3⟩
theorem nxtV_at {L : List Tk} {u t : Tk} {q : Nat} (ht : L[q]? = some t) : nxtV L u q = isVal u t := by unfold nxtV; rw [ht]
theorem valM_yes {B : Nat → Nat → Rr} {dead : Bool} {L : List Tk} {u t : Tk} {q made : Nat} (ht : L[q]? = some t) (h : isVal u t = true) : valM B dead L u q made = B q made := by
  unfold valM; rw [nxtV_at ht, h]; simp
theorem valM_bad {B : Nat → Nat → Rr} {dead : Bool} {L : List Tk} {u : Tk} {q made : Nat} (h : nxtV L u q = false) (hd : dead = true ∨ made = 4096) : valM B dead L u q made = .bad u.line 92 q made := by
  unfold valM; rw [h]; simp [hd]
theorem valM_leaf {B : Nat → Nat → Rr} {dead : Bool} {L : List Tk} {u : Tk} {q made : Nat} (h : nxtV L u q = false) (hd : ¬ (dead = true ∨ made = 4096)) : valM B dead L u q made = .ok (leafT u.line) q (made + 1) := by
  unfold valM; rw [h, if_neg (by decide), if_neg hd]
/-- a scalar without a token, in memory -/
theorem leaf_in {w w' : World} {rp : Nat} {a : Option Addr} {n cap : Nat} {L : List Tk} {q made : Nat} {ln : Int} {X : World} (hX : Rg X rp a n cap L q 0 0 (made + 1)) (hb : But rp w X) (hw : w' = X.alloc (.cells #[.int .i64 1, .string ⟨#[]⟩, .string ⟨#[]⟩, .bool false, .int .i64 ln, .slice none 0 0] 95)) : RrE w rp a n cap L (.ok (leafT ln) q (made + 1)) (.returned (.pointer (some ⟨X.heap.size, 0, none⟩))) w' := by
  subst hw
  have hs : (X.alloc (.cells #[.int .i64 1, .string ⟨#[]⟩, .string ⟨#[]⟩, .bool false, .int .i64 ln, .slice none 0 0] 95)).heap.size = X.heap.size + 1 := by simp
  have hbl : Below X.heap.size X (X.alloc (.cells #[.int .i64 1, .string ⟨#[]⟩, .string ⟨#[]⟩, .bool false, .int .i64 ln, .slice none 0 0] 95)) := (Below.refl _ _).alloc (Nat.le_refl _) _
  refine ⟨X.heap.size, rfl, ?_, hX.below hbl, hb.trans (But.of_below hbl)⟩
  rw [leafT, TrIn]
  refine ⟨⟨hb.size, by omega⟩, by decide, .slice none 0 0, [], Go.heap_alloc_new _ _, (fun r h => by cases h), ⟨by simp [ptrs], .inl ⟨rfl, rfl⟩⟩, by rw [TrsIn]⟩
set_option maxHeartbeats 8000000 in
/-- behind the last token: a scalar without one -/
theorem value_end (w : World) (rp : Nat) (a : Option Addr) (n cap : Nat) (L : List Tk) (u : Tk) (made d f : Nat) (hd : d + f = 17) (B : Nat → Nat → Rr) (h : Rg w rp a n cap L n 0 0 made) :
    Calls Tryz.prog 60 #[.pointer (some ⟨rp, 0, none⟩), .agg u.row.toArray, .int .i64 d] w (RrE w rp a n cap L (valM B (decide (f = 0)) L u n made)) := by
  have hno : nxtV L u n = false := by unfold nxtV; rw [List.getElem?_eq_none (by have := h.len; omega)]
  have HNO := hideL hno
  have hsm := h.small
  have hmd := h.made
  obtain ⟨kd, line, col, tx, quo⟩ := u
  obtain ⟨W1, hW1⟩ : ∃ W1, w.alloc (.cells #[.int .i64 kd, .int .i64 line, .int .i64 col, .string tx, .bool quo] 61) = W1 := ⟨_, rfl⟩
  have h1 : Below w.heap.size w W1 := by rw [← hW1]; exact (Below.refl _ _).alloc (Nat.le_refl _) _
  obtain ⟨z0, z1, z2, z3, z4⟩ := (h.below h1).cells
  have HR := hideL (h.below h1)
  have f4 := (h.below h1).free 4
  have HB1 := hideL h1
  have b1 : W1.cell? ⟨w.heap.size, 1, none⟩ = some (.int .i64 line) := by rw [← hW1, cell_block (Go.heap_alloc_new w _)]; rfl
  have HW1 := hideL hW1
  have hrp := h.lt
  clear hno h h1 hW1
  show Calls Tryz.prog 60 #[.pointer (some ⟨rp, 0, none⟩), .agg #[.int .i64 kd, .int .i64 line, .int .i64 col, .string tx, .bool quo], .int .i64 d] w _
  go_enter Tryz.func60, Tryz.ntmps60
  go_wp2_with fail
  rw [HW1.out]
  go_quiet (fail)
  by_cases hf : f = 0
  · have hd16 : (16 : Int) < d := by omega
    go_wp2_with fail
    refine (fail_any _ rp a n cap L n 0 made line 92 (HR.out.below (below_drewN (Below.refl _ _) _))).mono ?_
    rintro e w2 ⟨rfl, hR2, hB2⟩
    go_wp2
    go_ret
    rw [valM_bad HNO.out (.inl (by simpa using hf))]
    exact ⟨rfl, hR2, (But.of_below (below_drewN HB1.out _)).trans hB2⟩
  · have hd16 : ¬ (16 : Int) < d := by omega
    by_cases hm : made = 4096
    · subst hm
      go_wp2_with fail
      refine (fail_any _ rp a n cap L n 0 4096 line 92 (HR.out.below (below_drewN (Below.refl _ _) _))).mono ?_
      rintro e w2 ⟨rfl, hR2, hB2⟩
      go_wp2
      go_ret
      rw [valM_bad HNO.out (.inr rfl)]
      exact ⟨rfl, hR2, (But.of_below (below_drewN HB1.out _)).trans hB2⟩
    · have hm' : ((made : Int) == 4096) = false := by rw [beq_eq_false_iff_ne]; omega
      have b1x : ((W1.drewN nq).setCell ⟨rp, 4, none⟩ (.int .i64 ((made : Int) + 1))).cell? ⟨w.heap.size, 1, none⟩ = some (.int .i64 line) := by
        rw [← b1]
        exact World.cell?_of_block (w := W1) (a := ⟨w.heap.size, 1, none⟩) (Below.heap_setCell _ _ _ _ (by show w.heap.size ≠ rp; omega))
      have HX : Hid (Rg ((W1.drewN nq).setCell ⟨rp, 4, none⟩ (.int .i64 ((made : Int) + 1))) rp a n cap L n 0 0 (made + 1)) := by
        have := (HR.out.below (below_drewN (Below.refl _ _) nq)).set.2.2.2 (made + 1) (by omega)
        exact this
      go_wp2
      go_ret
      rw [valM_leaf HNO.out (by simp [hf]; omega)]
      have hxs : ((W1.drewN nq).setCell ⟨rp, 4, none⟩ (.int .i64 ((made : Int) + 1))).heap.size = W1.heap.size := by simp
      have hL := leaf_in (ln := line) HX.out ((But.of_below (below_drewN HB1.out nq)).trans (But.set 4 _)) rfl
      rw [hxs] at hL
      exact hL
end Go.Proofs.YtmmnpnhffgpchaaGreatDoor
