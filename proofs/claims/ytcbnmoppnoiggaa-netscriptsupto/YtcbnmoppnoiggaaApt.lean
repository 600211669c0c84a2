/-
  Bytes beside a net.
-/
import Derived.Test.YtcbnmoppnoiggaaAwake
namespace Go.Proofs.Ytcbnmoppnoiggaa
open Go.RowKit
set_option linter.unusedVariables false
set_option linter.unusedSimpArgs false
/-- Bytes of one's own that no net has. -/
structure Apt (w : World) (base b : Nat) (row : Value) (cs : List Cn) (v : Value) (zs : List Int) : Prop where
  buf : Buf w base v zs
  out : ∀ g, v.ownBlock = some g → g ∉ blocks b row cs
theorem Apt.nil (w : World) (base b : Nat) (row : Value) (cs : List Cn) : Apt w base b row cs (.slice none 0 0) [] := ⟨Buf.nil _ _, fun g h => by cases h⟩
theorem Apt.step {w w' : World} {base b : Nat} {row mv row' mv' : Value} {cs cs' : List Cn} {v : Value} {zs : List Int} (h : Apt w base b row cs v zs) (D : Dialed w w' base b row mv cs row' mv' cs') : Apt w' base b row' cs' v zs :=
  ⟨h.buf.keep fun k hk => D.turn.block k (h.buf.low hk).2 (h.out k hk), fun g hg hm => (D.sub g hm).elim (h.out g hg) (fun h' => by have := (h.buf.low hg).2; omega)⟩
theorem Net.grown {w w' : World} {base b : Nat} {row mv : Value} {cs : List Cn} {r : Option Nat} (h : Net w base b row mv cs) (hg : w.grownBy w' r) (hr : ∀ g, r = some g → g ∉ blocks b row cs) : Net w' base b row mv cs :=
  h.far fun k hk => hg.block k (h.lt k hk).2 (fun e => hr k e.symm hk)
theorem Apt.grown {w w' : World} {base b : Nat} {row mv : Value} {cs : List Cn} {v : Value} {zs : List Int} {r : Option Nat} (h : Apt w base b row cs v zs) (hg : w.grownBy w' r) (hr : ne2 r v.ownBlock) : Apt w' base b row cs v zs :=
  ⟨h.buf.keep fun k hk => hg.block k (h.buf.low hk).2 (fun e => hr k e.symm hk), h.out⟩
/-- What was appended onto is apart still. -/
theorem Apt.more {w w' : World} {base b : Nat} {row mv : Value} {cs : List Cn} {v v' : Value} {zs zs' : List Int} (h : Apt w base b row cs v zs) (hn : Net w base b row mv cs) (hB : Buf w' base v' zs') (hat : v'.ownBlock = v.ownBlock ∨ ∀ g, v'.ownBlock = some g → w.heap.size ≤ g) : Apt w' base b row cs v' zs' :=
  ⟨hB, fun g hg hm => by
    rcases hat with h' | h'
    · exact h.out g (h' ▸ hg) hm
    · have := (hn.lt g hm).2; have := h' g hg; omega⟩
theorem Got.apt {w : World} {base b : Nat} {row : Value} {cs cs' : List Cn} {v : Value} {zs : List Int} (h : Got w base b row cs cs' v zs) : Apt w base b row cs' v zs := ⟨h.buf, fun g hg => (h.out g hg).2⟩
theorem Got.ne {w w' : World} {base b : Nat} {row : Value} {cs cs' : List Cn} {v v' : Value} {zs zs' : List Int} (h : Got w base b row cs cs' v zs) (h' : Apt w' base b row cs v' zs') : ne2 v'.ownBlock v.ownBlock :=
  fun k h1 h2 => h'.out k h1 (h.out k h2).1
theorem Below.of_grown {B : Nat} {a w w' : World} {base : Nat} {v : Value} {zs : List Int} (h : Below B a w) (hB : B ≤ w.heap.size) (hb : Buf w base v zs) (hbb : B ≤ base) (hg : w.grownBy w' v.ownBlock) : Below B a w' :=
  h.grown hg hB (fun k hk => Nat.le_trans hbb (hb.low hk).1)
def SE (us : List Int) (t : Bool) (ar : List Int) : Md := ⟨⟨#[97]⟩, true, false, ⟨us, [], true, t⟩, ⟨[], ar, false, false⟩⟩
theorem pass_SE (us : List Int) (t : Bool) (k : Int) (hk : 0 ≤ k) : mPass (SE us t []) false k = ((mK (SE us t []) false k : Int), 0, SE (us.drop (mK (SE us t []) false k)) (if mK (SE us t []) false k = us.length then true else t) (us.take (mK (SE us t []) false k))) := by
  unfold mPass
  rw [if_neg (by omega), if_neg (by simp [SE])]
  rfl
theorem pass_neg (c : Md) (s : Bool) (k : Int) (hk : k < 0) : mPass c s k = (0, 2, c) := by
  unfold mPass
  rw [if_pos hk]
theorem read_SE (us ar : List Int) (t : Bool) : mRead (SE us t ar) true = (ar, t, 0, SE us t []) := rfl
end Go.Proofs.Ytcbnmoppnoiggaa
