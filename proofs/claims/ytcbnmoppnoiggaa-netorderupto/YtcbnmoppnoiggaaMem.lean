/-
  NetOrder: the memory beside the net.
-/
import Derived.Test.YtcbnmoppnoiggaaInv
namespace Go.Proofs.Ytcbnmoppnoiggaa
open Go.RowKit
set_option linter.unusedVariables false
set_option linter.unusedSimpArgs false
structure Mem (Wo w : World) (B b : Nat) (row : Value) (cs : List Cn) (bw br : Nat) (vw vr : Bool → Value) (W R : Bool → List Int) : Prop where
  net : Net w B b row (.map none) cs
  kw : w.heap[bw]? = some (.cells #[vw false, vw true] 42 (0, 0))
  kr : w.heap[br]? = some (.cells #[vr false, vr true] 42 (0, 0))
  lw : B ≤ bw
  lr : B ≤ br
  nwr : bw ≠ br
  aw : ∀ s, Apt w B b row cs (vw s) (W s)
  ar : ∀ s, Apt w B b row cs (vr s) (R s)
  nw : ne2 (vw false).ownBlock (vw true).ownBlock
  nr : ne2 (vr false).ownBlock (vr true).ownBlock
  nx : ∀ s t, ne2 (vw s).ownBlock (vr t).ownBlock
  bel : Below B Wo w
theorem Mem.swap {Wo w : World} {B b : Nat} {row : Value} {cs : List Cn} {bw br : Nat} {vw vr : Bool → Value} {W R : Bool → List Int} (h : Mem Wo w B b row cs bw br vw vr W R) : Mem Wo w B b row cs br bw vr vw R W :=
  ⟨h.net, h.kr, h.kw, h.lr, h.lw, h.nwr.symm, h.ar, h.aw, h.nr, h.nw, fun s t => (h.nx t s).symm, h.bel⟩
theorem Net.out_of {w : World} {B b : Nat} {row mv : Value} {cs : List Cn} (h : Net w B b row mv cs) {k : Nat} {cur : Array Value} {t : TypeId} {fr : Nat × Nat} (hk : w.heap[k]? = some (.cells cur t fr)) (h1 : t ≠ 55) (h2 : t ≠ 68) (h3 : t ≠ 75) (h4 : t ≠ 5) : k ∉ blocks b row cs := by
  intro hm
  simp only [blocks, List.mem_cons, List.mem_append, List.mem_flatMap, Option.mem_toList, Option.mem_def] at hm
  rcases hm with rfl | hm | ⟨c, hc, hm⟩
  · rw [h.net] at hk; cases hk; exact h1 rfl
  · exact row_type h.rw hk h2 hm.symm
  · have C := h.con c hc
    simp only [Cn.blocks, Sd.blocks, List.mem_cons, List.mem_append, Option.mem_toList, Option.mem_def] at hm
    rcases hm with rfl | (h | h) | (h | h)
    · rw [C.blk] at hk; cases hk; exact h3 rfl
    · exact C.u0.ne hk h4 h
    · exact C.a0.ne hk h4 h
    · exact C.u1.ne hk h4 h
    · exact C.a1.ne hk h4 h
def Kept34 (w w' : World) : Prop := ∀ (k : Nat) (cur : Array Value), w.heap[k]? = some (Obj.cells cur 34 (0, 0)) → w'.heap[k]? = some (Obj.cells cur 34 (0, 0))
theorem Mem.far {Wo w w' : World} {B b : Nat} {row : Value} {cs : List Cn} {bw br : Nat} {vw vr : Bool → Value} {W R : Bool → List Int} (h : Mem Wo w B b row cs bw br vw vr W R) (hb : ∀ k, k < w.heap.size → w'.heap[k]? = w.heap[k]?) (hw : Below B Wo w') : Mem Wo w' B b row cs bw br vw vr W R :=
  ⟨h.net.far fun k hk => hb k (h.net.lt k hk).2, (hb _ (lt_of_block h.kw)).trans h.kw, (hb _ (lt_of_block h.kr)).trans h.kr, h.lw, h.lr, h.nwr,
    fun s => ⟨(h.aw s).buf.keep fun k hk => hb k ((h.aw s).buf.low hk).2, (h.aw s).out⟩, fun s => ⟨(h.ar s).buf.keep fun k hk => hb k ((h.ar s).buf.low hk).2, (h.ar s).out⟩, h.nw, h.nr, h.nx, hw⟩
theorem Mem.sz {Wo w : World} {B b : Nat} {row : Value} {cs : List Cn} {bw br : Nat} {vw vr : Bool → Value} {W R : Bool → List Int} (h : Mem Wo w B b row cs bw br vw vr W R) : B ≤ w.heap.size := Nat.le_trans h.lw (Nat.le_of_lt (lt_of_block h.kw))
theorem Mem.drew {Wo w : World} {B b : Nat} {row : Value} {cs : List Cn} {bw br : Nat} {vw vr : Bool → Value} {W R : Bool → List Int} (h : Mem Wo w B b row cs bw br vw vr W R) : Mem Wo w.drew B b row cs bw br vw vr W R := h.far (fun _ _ => rfl) h.bel.drew
theorem Mem.drewN {Wo w : World} {B b : Nat} {row : Value} {cs : List Cn} {bw br : Nat} {vw vr : Bool → Value} {W R : Bool → List Int} (h : Mem Wo w B b row cs bw br vw vr W R) (q : Nat) : Mem Wo (w.drewN q) B b row cs bw br vw vr W R := h.far (fun _ _ => rfl) (below_drewN h.bel q)
theorem Mem.alloc {Wo w : World} {B b : Nat} {row : Value} {cs : List Cn} {bw br : Nat} {vw vr : Bool → Value} {W R : Bool → List Int} (h : Mem Wo w B b row cs bw br vw vr W R) (o : Obj) : Mem Wo (w.alloc o) B b row cs bw br vw vr W R :=
  h.far (fun k hk => Below.heap_alloc w o k hk) (h.bel.alloc h.sz o)
theorem Mem.dialed {Wo w w' : World} {B b : Nat} {row : Value} {cs cs' : List Cn} {bw br : Nat} {vw vr : Bool → Value} {W R : Bool → List Int} (h : Mem Wo w B b row cs bw br vw vr W R) (D : Dialed w w' B b row (.map none) cs row (.map none) cs') :
    Mem Wo w' B b row cs' bw br vw vr W R ∧ Kept34 w w' :=
  ⟨⟨D.net, (D.turn.block _ (lt_of_block h.kw) (h.net.out_of h.kw (by decide) (by decide) (by decide) (by decide))).trans h.kw, (D.turn.block _ (lt_of_block h.kr) (h.net.out_of h.kr (by decide) (by decide) (by decide) (by decide))).trans h.kr, h.lw, h.lr, h.nwr,
    fun s => (h.aw s).step D, fun s => (h.ar s).step D, h.nw, h.nr, h.nx, h.bel.trans (D.below h.net)⟩,
    fun k cur hk => (D.turn.block k (lt_of_block hk) (h.net.out_of hk (by decide) (by decide) (by decide) (by decide))).trans hk⟩
def bI (s : Bool) : Nat := if s then 1 else 0
/-- Bytes were appended to what was written by a side. -/
theorem Mem.app {Wo w w2 : World} {B b : Nat} {row : Value} {cs : List Cn} {bw br : Nat} {vw vr : Bool → Value} {W R : Bool → List Int} (h : Mem Wo w B b row cs bw br vw vr W R) (s : Bool) (v' : Value) (zs' : List Int)
    (hg : w.grownBy w2 (vw s).ownBlock) (hB : Buf w2 B v' zs') (hat : v'.ownBlock = (vw s).ownBlock ∨ ∀ g, v'.ownBlock = some g → w.heap.size ≤ g) :
    Mem Wo (w2.setCell ⟨bw, bI s, none⟩ v') B b row cs bw br (upd vw s v') vr (upd W s zs') R ∧ Kept34 w (w2.setCell ⟨bw, bI s, none⟩ v') := by
  have A := h.aw s
  have typ : ∀ {k : Nat} {cur : Array Value} {t : TypeId} {fr : Nat × Nat}, w.heap[k]? = some (.cells cur t fr) → t ≠ 5 → w2.heap[k]? = some (.cells cur t fr) := fun {k cur t fr} hk ht => (hg.block k (lt_of_block hk) (fun e => A.buf.ne hk ht e.symm)).trans hk
  have kw2 := typ h.kw (by decide)
  have kr2 := typ h.kr (by decide)
  have N2 := h.net.grown hg (fun g e => A.out g e)
  have hout := h.net.out_of h.kw (by decide) (by decide) (by decide) (by decide)
  have far : ∀ k, k ≠ bw → (w2.setCell ⟨bw, bI s, none⟩ v').heap[k]? = w2.heap[k]? := fun k hk => Below.heap_setCell w2 _ _ k hk
  have apt2 : ∀ {v : Value} {zs : List Int}, Apt w2 B b row cs v zs → Apt (w2.setCell ⟨bw, bI s, none⟩ v') B b row cs v zs := fun {v zs} a => ⟨a.buf.keep fun k hk => far k (fun e => a.buf.ne kw2 (by decide) (by rw [hk, e])), a.out⟩
  have keep : ∀ {v : Value} {zs : List Int}, Apt w B b row cs v zs → ne2 (vw s).ownBlock v.ownBlock → Apt (w2.setCell ⟨bw, bI s, none⟩ v') B b row cs v zs := fun {v zs} a n => apt2 (a.grown (mv := .map none) hg n)
  have new := apt2 (A.more h.net hB hat)
  have lt : ∀ {v : Value} {zs : List Int}, Apt w B b row cs v zs → ∀ k, v.ownBlock = some k → k < w.heap.size := fun a k hk => (a.buf.low hk).2
  have nes : ∀ {v : Value} {zs : List Int}, Apt w B b row cs v zs → ne2 (vw s).ownBlock v.ownBlock → ne2 v'.ownBlock v.ownBlock := fun a n => ne2_of n hat (lt a)
  have nws : ∀ t, t ≠ s → ne2 (vw s).ownBlock (vw t).ownBlock := fun t ht => by
    have := h.nw
    cases s <;> cases t <;> first | exact absurd rfl ht | exact this | exact this.symm
  refine ⟨⟨N2.far fun k hk => far k (fun e => hout (e ▸ hk)), ?_, (far br h.nwr.symm).trans kr2, h.lw, h.lr, h.nwr, ?_, fun t => keep (h.ar t) (h.nx s t), ?_, h.nr, ?_, ?_⟩, ?_⟩
  · rw [block_setCell kw2]
    cases s <;> rfl
  · intro t
    by_cases e : t = s
    · subst e; rw [upd_same, upd_same]; exact new
    · rw [upd_other _ _ _ e, upd_other _ _ _ e]; exact keep (h.aw t) (nws t e)
  · cases s
    · rw [upd_same, upd_other _ _ _ (by decide)]; exact nes (h.aw true) (nws true (by decide))
    · rw [upd_same, upd_other _ _ _ (by decide)]; exact (nes (h.aw false) (nws false (by decide))).symm
  · intro t t'
    by_cases e : t = s
    · subst e; rw [upd_same]; exact nes (h.ar t') (h.nx t t')
    · rw [upd_other _ _ _ e]; exact h.nx t t'
  · exact (h.bel.grown hg h.sz (fun k hk => (A.buf.low hk).1)).setCell (p := ⟨bw, bI s, none⟩) h.lw _
  · intro k cur hk
    exact (far k (fun e => by rw [e, h.kw] at hk; cases hk)).trans (typ hk (by decide))
theorem Mem.appr {Wo w w2 : World} {B b : Nat} {row : Value} {cs : List Cn} {bw br : Nat} {vw vr : Bool → Value} {W R : Bool → List Int} (h : Mem Wo w B b row cs bw br vw vr W R) (s : Bool) (v' : Value) (zs' : List Int)
    (hg : w.grownBy w2 (vr s).ownBlock) (hB : Buf w2 B v' zs') (hat : v'.ownBlock = (vr s).ownBlock ∨ ∀ g, v'.ownBlock = some g → w.heap.size ≤ g) :
    Mem Wo (w2.setCell ⟨br, bI s, none⟩ v') B b row cs bw br vw (upd vr s v') W (upd R s zs') ∧ Kept34 w (w2.setCell ⟨br, bI s, none⟩ v') :=
  let ⟨a, b⟩ := h.swap.app s v' zs' hg hB hat
  ⟨a.swap, b⟩
theorem Mem.app' {Wo w w2 : World} {B b : Nat} {row : Value} {cs : List Cn} {bw br : Nat} {vw vr : Bool → Value} {W R : Bool → List Int} (h : Mem Wo w B b row cs bw br vw vr W R) (s : Bool) (v v' : Value) (zs' : List Int) (hv : vw s = v)
    (hg : w.drew.grownBy w2 v.ownBlock) (hB : Buf w2 B v' zs') (hat : v'.ownBlock = v.ownBlock ∨ ∀ g, v'.ownBlock = some g → w.drew.heap.size ≤ g) :
    Mem Wo (w2.setCell ⟨bw, bI s, none⟩ v') B b row cs bw br (upd vw s v') vr (upd W s zs') R ∧ Kept34 w (w2.setCell ⟨bw, bI s, none⟩ v') := by
  subst hv
  exact h.app s v' zs' ⟨hg.os, hg.tape, hg.output, hg.size, hg.block⟩ hB hat
theorem Mem.appr' {Wo w w2 : World} {B b : Nat} {row : Value} {cs : List Cn} {bw br : Nat} {vw vr : Bool → Value} {W R : Bool → List Int} (h : Mem Wo w B b row cs bw br vw vr W R) (s : Bool) (v v' : Value) (zs' : List Int) (hv : vr s = v)
    (hg : w.drew.grownBy w2 v.ownBlock) (hB : Buf w2 B v' zs') (hat : v'.ownBlock = v.ownBlock ∨ ∀ g, v'.ownBlock = some g → w.drew.heap.size ≤ g) :
    Mem Wo (w2.setCell ⟨br, bI s, none⟩ v') B b row cs bw br vw (upd vr s v') W (upd R s zs') ∧ Kept34 w (w2.setCell ⟨br, bI s, none⟩ v') := by
  subst hv
  exact h.appr s v' zs' ⟨hg.os, hg.tape, hg.output, hg.size, hg.block⟩ hB hat
theorem Mem.cw {Wo w : World} {B b : Nat} {row : Value} {cs : List Cn} {bw br : Nat} {vw vr : Bool → Value} {W R : Bool → List Int} (h : Mem Wo w B b row cs bw br vw vr W R) (s : Bool) : w.cell? ⟨bw, bI s, none⟩ = some (vw s) ∧ w.frozen? ⟨bw, bI s, none⟩ = false := by
  refine ⟨?_, by simp [World.frozen?, h.kw]⟩
  rw [cell_block h.kw]; cases s <;> rfl
theorem Mem.cr {Wo w : World} {B b : Nat} {row : Value} {cs : List Cn} {bw br : Nat} {vw vr : Bool → Value} {W R : Bool → List Int} (h : Mem Wo w B b row cs bw br vw vr W R) (s : Bool) : w.cell? ⟨br, bI s, none⟩ = some (vr s) ∧ w.frozen? ⟨br, bI s, none⟩ = false := h.swap.cw s
/-- Whether the one connection is cut. -/
def Cutq (cs : List Cn) (q : Bool) : Prop := ∀ c, cs[1]? = some c → c.m.ct = q
theorem Cutq.set {cs : List Cn} {q : Bool} (h : Cutq cs q) {i : Nat} {c c' : Cn} (hc : cs[i]? = some c) (hm : c'.m.ct = c.m.ct) : Cutq (cs.set i c') q := by
  intro d hd
  have hi : i < cs.length := (List.getElem?_eq_some_iff.1 hc).1
  rw [List.getElem?_set] at hd
  by_cases e : i = 1
  · subst e; simp [hi] at hd; subst hd; rw [hm]; exact h c hc
  · rw [if_neg e] at hd; exact h d hd
theorem Cutq.cut {cs : List Cn} {q : Bool} (h : Cutq cs q) {i : Nat} {c c' : Cn} (hc : cs[i]? = some c) (hm : c'.m.ct = true) : Cutq (cs.set i c') (q || decide (i = 1)) := by
  intro d hd
  have hi : i < cs.length := (List.getElem?_eq_some_iff.1 hc).1
  rw [List.getElem?_set] at hd
  by_cases e : i = 1
  · subst e; simp [hi] at hd; subst hd; rw [hm]; simp
  · rw [if_neg e] at hd; rw [h d hd]; simp [e]
theorem write_ct (m : Md) (s : Bool) (ps : List Int) : (mWrite m s ps).2.ct = m.ct := by
  rcases write_cases m s ps with ⟨_, h⟩ | ⟨_, h⟩
  · rw [h]
  · rw [h]; exact Md.set_ct _ _ _
theorem pass_ct (m : Md) (s : Bool) (k : Int) : (mPass m s k).2.2.ct = m.ct := by
  unfold mPass
  split
  · rfl
  · split
    · rfl
    · show ((m.set (!s) _).set s _).ct = _
      rw [Md.set_ct, Md.set_ct]
theorem read_ct (m : Md) (s : Bool) : (mRead m s).2.2.2.ct = m.ct := by
  unfold mRead
  split
  · rfl
  · exact Md.set_ct _ _ _
theorem close_ct (m : Md) (s : Bool) : (mClose m s).2.ct = m.ct := by
  unfold mClose
  split
  · rfl
  · split
    · rfl
    · exact Md.set_ct _ _ _
theorem pass_bound (m : Md) (s : Bool) (k : Int) (h : (mPass m s k).2.1 = 0) : 0 ≤ (mPass m s k).1 ∧ (mPass m s k).1 ≤ k := by
  unfold mPass at h ⊢
  split at h
  · cases h
  · split at h
    · cases h
    · rename_i h1 h2
      rw [if_neg h1, if_neg h2]
      show 0 ≤ (mK m s k : Int) ∧ (mK m s k : Int) ≤ k
      unfold mK
      omega
theorem Kept34.trans {a b c : World} (h : Kept34 a b) (g : Kept34 b c) : Kept34 a c := fun k cur hk => g k cur (h k cur hk)
end Go.Proofs.Ytcbnmoppnoiggaa
