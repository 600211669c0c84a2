/-
  A whole disk beside a chooser: a file, or the directory, is turned, and the chooser's place with it.
-/
import Derived.Test.YtkmohpdcchpndaaSrt
namespace Go.Proofs.Ytkmohpdcchpndaa
open Go.RowKit
set_option linter.unusedVariables false
set_option linter.unusedSimpArgs false
set_option maxRecDepth 100000
/-- the disk is turned, and one block beside it -/
structure KtN (nb : Nat) (w w' : World) (d : Nat) (x : Dr) (am : Option Am) (es : List En) (x' : Dr) (am' : Option Am) (es' : List En) : Prop where
  os : w'.os = w.os
  tape : w'.tape = w.tape
  output : w'.output = w.output
  size : w.heap.size ≤ w'.heap.size
  block : ∀ k, k < w.heap.size → ¬ dmut d x am es k → k ≠ nb → w'.heap[k]? = w.heap[k]?
  sub : ∀ k, dmut d x' am' es' k → dmut d x am es k ∨ w.heap.size ≤ k
theorem Kt.toN {nb : Nat} {w w' : World} {d : Nat} {x x1 : Dr} {am am1 : Option Am} {es es1 : List En} (h : Kt w w' d x am es x1 am1 es1) : KtN nb w w' d x am es x1 am1 es1 := ⟨h.os, h.tape, h.output, h.size, fun k hk hn _ => h.block k hk hn, h.sub⟩
theorem KtN.trans {nb : Nat} {w w1 w2 : World} {d : Nat} {x x1 x2 : Dr} {am am1 am2 : Option Am} {es es1 es2 : List En} (h : KtN nb w w1 d x am es x1 am1 es1) (g : KtN nb w1 w2 d x1 am1 es1 x2 am2 es2) : KtN nb w w2 d x am es x2 am2 es2 :=
  ⟨g.os.trans h.os, g.tape.trans h.tape, g.output.trans h.output, Nat.le_trans h.size g.size, fun k hk hn hkn => (g.block k (Nat.lt_of_lt_of_le hk h.size) (fun h' => (h.sub k h').elim hn (fun h'' => by omega)) hkn).trans (h.block k hk hn hkn), fun k hk => (g.sub k hk).elim (h.sub k) (fun h' => .inr (Nat.le_trans h.size h'))⟩
theorem KtN.to {nb : Nat} {w w' : World} {d : Nat} {x x1 : Dr} {am am1 : Option Am} {es es1 : List En} (h : KtN nb w w' d x am es x1 am1 es1) (hn : w.heap.size ≤ nb) : Kt w w' d x am es x1 am1 es1 := ⟨h.os, h.tape, h.output, h.size, fun k hk hd => h.block k hk hd (by omega), h.sub⟩
/-- a file of the disk is turned -/
theorem Dk.fileN {nb : Nat} {w w' : World} {base d : Nat} {x : Dr} {am : Option Am} {fo : Option (DataW Unit)} {nf made : Nat} {es : List En} {lab : Nat → Nat} (h : Dk w base d x am fo nf made es lab) {e : En} (he : e ∈ es) {f' : Fs} (tfil : Fil w' base e.b f') (tturn : Turn w w' (nb :: e.f.mut e.b)) (tsub : ∀ k ∈ f'.mut e.b, k ∈ e.f.mut e.b ∨ w.heap.size ≤ k) (hnb : lab nb = 5 + made) (hrp : Rp f'.last f'.ls f'.now) (hls : ∀ c ∈ f'.ls, c ∈ e.f.ls ∨ ∀ k ∈ c.ro, k < w.heap.size ∧ lab k = 3) :
    Dk w' base d x am fo nf made (setf es e.num f') (Ytkmohpdcchpndaa.relab lab w.heap.size (4 + e.num)) ∧ KtN nb w w' d x am es x am (setf es e.num f') := by
  have lt := fun k (hk : k ∈ e.f.mut e.b) => ((h.fil e he).lt k hk).2
  have same : ∀ k, k < w.heap.size → lab k ≠ 4 + e.num → lab k ≠ 5 + made → w'.heap[k]? = w.heap[k]? := fun k hk hn hn2 => tturn.block k hk fun hm => (List.mem_cons.1 hm).elim (fun e1 => hn2 (e1 ▸ hnb)) (fun hm => hn (h.l4 e he k hm))
  have only : ∀ z ∈ es, z.num = e.num → z = e := fun z hz hn => h.one z hz e he hn
  have old : ∀ y ∈ setf es e.num f', y = ⟨e.num, e.b, f'⟩ ∨ (y ∈ es ∧ y.num ≠ e.num) := fun y hy => by
    rcases mem_setf hy with ⟨z, hz, hn, rfl⟩ | h'
    · have := only z hz hn
      subst this
      exact .inl rfl
    · exact .inr h'
  have ro3 : ∀ c ∈ f'.ls, ∀ k ∈ c.ro, k < w.heap.size ∧ lab k = 3 := fun c hc k hk => (hls c hc).elim (fun hm => ⟨(((h.fil e he).chg c hm).lt k hk).2, h.l3e e he c hm k hk⟩) (fun h' => h' k hk)
  have rl : ∀ k, k < w.heap.size → Ytkmohpdcchpndaa.relab lab w.heap.size (4 + e.num) k = lab k := fun k hk => relab_old hk
  refine ⟨{ h with dir := ?_, fm := ?_, arm := ?_, fil := ?_, rp := ?_, at_ := ?_, one := ?_, named := ?_, lasts := ?_, loose := ?_, l0 := ?_, l1 := ?_, l2 := ?_, l2g := ?_, l3 := ?_, l3e := ?_, l4 := ?_ }, ?_⟩
  · exact h.dir.keep (fun k hk => same k (h.dir.lt k hk).2 (by have := h.l0 k hk; omega) (by have := h.l0 k hk; omega)) (fun c hc k hk => same k ((h.dir.chg c hc).lt k hk).2 (by have := h.l3 c hc k hk; omega) (by have := h.l3 c hc k hk; omega))
  · exact h.fm.keep fun k hk => same k (h.fm.low hk).2 (by have := h.l1 k hk; omega) (by have := h.l1 k hk; omega)
  · intro a ha
    have hA := h.arm a ha
    obtain ⟨ty, hb0⟩ := hA.blk
    exact hA.keep (same _ (lt_of_block hb0) (by have := h.l2 a ha; omega) (by have := h.l2 a ha; omega)) (fun k hk => same k (hA.lt k hk).2 (by have := h.l2g a ha k hk; omega) (by have := h.l2g a ha k hk; omega)) tturn.size
  · intro y hy
    rcases old y hy with rfl | ⟨hy, hn⟩
    · exact tfil
    · exact (h.fil y hy).keep (fun k hk => same k ((h.fil y hy).lt k hk).2 (by have := h.l4 y hy k hk; omega) (by have := h.l4 y hy k hk; have := (h.at_ y hy).2; omega)) (fun c hc k hk => same k (((h.fil y hy).chg c hc).lt k hk).2 (by have := h.l3e y hy c hc k hk; omega) (by have := h.l3e y hy c hc k hk; omega))
  · intro y hy
    rcases old y hy with rfl | ⟨hy, hn⟩
    · exact hrp
    · exact h.rp y hy
  · intro y hy
    rcases old y hy with rfl | ⟨hy, hn⟩
    · exact h.at_ e he
    · exact h.at_ y hy
  · intro y hy z hz hn
    rcases old y hy with rfl | ⟨hy, hn1⟩ <;> rcases old z hz with rfl | ⟨hz, hn2⟩
    · rfl
    · exact absurd hn.symm hn2
    · exact absurd hn hn1
    · exact h.one y hy z hz hn
  · intro nm num hh
    obtain ⟨z, hz, e1⟩ := h.named nm num hh
    obtain ⟨y, hy, e2⟩ := setf_of (num := e.num) (f' := f') hz
    exact ⟨y, hy, by rw [e2]; exact e1⟩
  · intro nm num hh
    obtain ⟨z, hz, e1⟩ := h.lasts nm num hh
    obtain ⟨y, hy, e2⟩ := setf_of (num := e.num) (f' := f') hz
    exact ⟨y, hy, by rw [e2]; exact e1⟩
  · intro c hc
    refine ⟨fun nm num hh => ?_, fun fr to_ num hh => ?_⟩
    · obtain ⟨z, hz, e1⟩ := (h.loose c hc).1 nm num hh
      obtain ⟨y, hy, e2⟩ := setf_of (num := e.num) (f' := f') hz
      exact ⟨y, hy, by rw [e2]; exact e1⟩
    · obtain ⟨z, hz, e1⟩ := (h.loose c hc).2 fr to_ num hh
      obtain ⟨y, hy, e2⟩ := setf_of (num := e.num) (f' := f') hz
      exact ⟨y, hy, by rw [e2]; exact e1⟩
  · exact fun k hk => (rl k (h.dir.lt k hk).2).trans (h.l0 k hk)
  · exact fun k hk => (rl k (h.fm.low hk).2).trans (h.l1 k hk)
  · intro a ha
    obtain ⟨ty, hb0⟩ := (h.arm a ha).blk
    exact (rl _ (lt_of_block hb0)).trans (h.l2 a ha)
  · exact fun a ha k hk => (rl k ((h.arm a ha).lt k hk).2).trans (h.l2g a ha k hk)
  · exact fun c hc k hk => (rl k ((h.dir.chg c hc).lt k hk).2).trans (h.l3 c hc k hk)
  · intro y hy c hc k hk
    rcases old y hy with rfl | ⟨hy, hn⟩
    · have := ro3 c hc k hk
      exact (rl k this.1).trans this.2
    · exact (rl k (((h.fil y hy).chg c hc).lt k hk).2).trans (h.l3e y hy c hc k hk)
  · intro y hy k hk
    rcases old y hy with rfl | ⟨hy, hn⟩
    · rcases tsub k hk with h' | h'
      · exact (rl k (lt k h')).trans (h.l4 e he k h')
      · exact relab_new h'
    · exact (rl k ((h.fil y hy).lt k hk).2).trans (h.l4 y hy k hk)
  · refine ⟨tturn.os, tturn.tape, tturn.output, tturn.size, fun k hk hn hkn => tturn.block k hk fun hm => (List.mem_cons.1 hm).elim hkn (fun hm => hn (.inr (.inr (.inr ⟨e, he, hm⟩)))), fun k hk => ?_⟩
    rcases hk with hk | hk | hk | ⟨y, hy, hk⟩
    · exact .inl (.inl hk)
    · exact .inl (.inr (.inl hk))
    · exact .inl (.inr (.inr (.inl hk)))
    · rcases old y hy with rfl | ⟨hy, hn⟩
      · exact (tsub k hk).imp (fun h' => .inr (.inr (.inr ⟨e, he, h'⟩))) id
      · exact .inl (.inr (.inr (.inr ⟨y, hy, hk⟩)))
theorem Dk.dirsN {nb : Nat} {w w' : World} {base d : Nat} {x x' : Dr} {am : Option Am} {fo : Option (DataW Unit)} {nf made : Nat} {es : List En} {lab : Nat → Nat} (h : Dk w base d x am fo nf made es lab) (tfil : Dir w' base d x') (tturn : Turn w w' (nb :: x.mut d)) (tsub : ∀ k ∈ x'.mut d, k ∈ x.mut d ∨ w.heap.size ≤ k) (hnb : lab nb = 5 + made) (hrd : Rd x'.last x'.ls x'.now) (h2 : x'.c2 = x.c2) (h6 : x'.c6 = x.c6) (h7 : x'.c7 = x.c7) (hN : Numbers x' es) (hls : ∀ c ∈ x'.ls, c ∈ x.ls ∨ ∀ k ∈ c.ro, k < w.heap.size ∧ lab k = 3) :
    Dk w' base d x' am fo nf made es (Ytkmohpdcchpndaa.relab lab w.heap.size 0) ∧ KtN nb w w' d x am es x' am es := by
  have same : ∀ k, k < w.heap.size → lab k ≠ 0 → lab k ≠ 5 + made → w'.heap[k]? = w.heap[k]? := fun k hk hn hn2 => tturn.block k hk fun hm => (List.mem_cons.1 hm).elim (fun e1 => hn2 (e1 ▸ hnb)) (fun hm => hn (h.l0 k hm))
  have ro3 : ∀ c ∈ x'.ls, ∀ k ∈ c.ro, k < w.heap.size ∧ lab k = 3 := fun c hc k hk => (hls c hc).elim (fun hm => ⟨((h.dir.chg c hm).lt k hk).2, h.l3 c hm k hk⟩) (fun h' => h' k hk)
  have rl : ∀ k, k < w.heap.size → Ytkmohpdcchpndaa.relab lab w.heap.size 0 k = lab k := fun k hk => relab_old hk
  refine ⟨⟨tfil, hrd, ?_, h7.trans h.c7, h2.trans h.c2, ?_, ?_, h.rp, h.at_, h.one, hN.named, hN.lasts, hN.loose, ?_, ?_, ?_, ?_, ?_, ?_, ?_⟩, ?_⟩
  · rw [h6]
    exact h.fm.keep fun k hk => same k (h.fm.low hk).2 (by have := h.l1 k hk; omega) (by have := h.l1 k hk; omega)
  · intro a ha
    have hA := h.arm a ha
    obtain ⟨ty, hb0⟩ := hA.blk
    exact hA.keep (same _ (lt_of_block hb0) (by have := h.l2 a ha; omega) (by have := h.l2 a ha; omega)) (fun k hk => same k (hA.lt k hk).2 (by have := h.l2g a ha k hk; omega) (by have := h.l2g a ha k hk; omega)) tturn.size
  · intro y hy
    exact (h.fil y hy).keep (fun k hk => same k ((h.fil y hy).lt k hk).2 (by have := h.l4 y hy k hk; omega) (by have := h.l4 y hy k hk; have := (h.at_ y hy).2; omega)) (fun c hc k hk => same k (((h.fil y hy).chg c hc).lt k hk).2 (by have := h.l3e y hy c hc k hk; omega) (by have := h.l3e y hy c hc k hk; omega))
  · intro k hk
    rcases tsub k hk with h' | h'
    · exact (rl k (h.dir.lt k h').2).trans (h.l0 k h')
    · exact relab_new h'
  · intro k hk
    rw [h6] at hk
    exact (rl k (h.fm.low hk).2).trans (h.l1 k hk)
  · intro a ha
    obtain ⟨ty, hb0⟩ := (h.arm a ha).blk
    exact (rl _ (lt_of_block hb0)).trans (h.l2 a ha)
  · exact fun a ha k hk => (rl k ((h.arm a ha).lt k hk).2).trans (h.l2g a ha k hk)
  · intro c hc k hk
    have := ro3 c hc k hk
    exact (rl k this.1).trans this.2
  · exact fun y hy c hc k hk => (rl k (((h.fil y hy).chg c hc).lt k hk).2).trans (h.l3e y hy c hc k hk)
  · exact fun y hy k hk => (rl k ((h.fil y hy).lt k hk).2).trans (h.l4 y hy k hk)
  · refine ⟨tturn.os, tturn.tape, tturn.output, tturn.size, fun k hk hn hkn => tturn.block k hk fun hm => (List.mem_cons.1 hm).elim hkn (fun hm => hn (.inl hm)), fun k hk => ?_⟩
    rcases hk with hk | hk | hk | hk
    · exact (tsub k hk).imp .inl id
    · exact .inl (.inr (.inl (h6 ▸ hk)))
    · exact .inl (.inr (.inr (.inl hk)))
    · exact .inl (.inr (.inr (.inr hk)))
end Go.Proofs.Ytkmohpdcchpndaa
