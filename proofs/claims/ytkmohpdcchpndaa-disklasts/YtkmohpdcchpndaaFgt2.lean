/-
  A whole disk: files that are not named are forgotten.
-/
import Derived.Test.YtkmohpdcchpndaaFgt
namespace Go.Proofs.Ytkmohpdcchpndaa
open Go.RowKit
set_option linter.unusedVariables false
set_option linter.unusedSimpArgs false
set_option maxRecDepth 100000
open Classical in
/-- the files that are named -/
noncomputable def namedOf (es : List En) (od : Option (DataW Unit)) : List En := es.filter fun e => decide (∃ nm, Has1 od nm (e.num : Int))
theorem mem_named {es : List En} {od : Option (DataW Unit)} {e : En} : e ∈ namedOf es od ↔ e ∈ es ∧ ∃ nm, Has1 od nm (e.num : Int) := by
  simp [namedOf]
theorem Dk.forget' {w w' : World} {base d : Nat} {x : Dr} {am : Option Am} {fo : Option (DataW Unit)} {nf made : Nat} {es : List En} {lab : Nat → Nat} (h : Dk w base d x am fo nf made es lab) {mb n : Nat} {D' : DataW Unit} (F : Fgt w w' d x es mb D' n) (hls : x.ls = []) (hnl : x.last = x.now) (hbase : base ≤ w.heap.size) :
    ∃ lab', Dk w' base d { x with c6 := .map (some mb) } am (some D') n made (namedOf es x.now) lab' ∧ Kt w w' d x am es { x with c6 := .map (some mb) } am (namedOf es x.now) ∧ ∀ k, k < w.heap.size → lab' k = lab k := by
  have hdl : lab d = 0 := h.l0 d (by simp [Dr.mut])
  have same : ∀ k, k < w.heap.size → k ≠ d → w'.heap[k]? = w.heap[k]? := fun k hk hn => F.but.block k hk hn
  have samel : ∀ k, k < w.heap.size → lab k ≠ 0 → w'.heap[k]? = w.heap[k]? := fun k hk hn => same k hk (fun e => hn (e ▸ hdl))
  have rl : ∀ k, k < w.heap.size → Ytkmohpdcchpndaa.relab lab w.heap.size 1 k = lab k := fun k hk => relab_old hk
  obtain ⟨n1, n2, n3, _⟩ := (nod3 d (mblk x.lv) (mblk x.nv) x.lo.ownBlock).1 h.dir.nod
  have samed : ∀ k ∈ x.mut d, k ≠ d → w'.heap[k]? = w.heap[k]? := fun k hk h1 => same k (h.dir.lt k hk).2 h1
  have sub : ∀ e ∈ namedOf es x.now, e ∈ es := fun e he => (mem_named.1 he).1
  have inn : ∀ nm num, Has1 x.now nm num → ∃ e ∈ namedOf es x.now, num = e.num := fun nm num hh => by
    obtain ⟨e, he, hn⟩ := h.named nm num hh
    exact ⟨e, mem_named.2 ⟨he, nm, hn ▸ hh⟩, hn⟩
  refine ⟨Ytkmohpdcchpndaa.relab lab w.heap.size 1, ⟨⟨F.blk, h.dir.low, ?_, ?_, ?_, ?_, h.dir.nod, h.dir.ap⟩, h.rd, .inr ⟨mb, D', rfl, rfl, Nat.le_trans hbase F.new, F.own, F.tidy⟩, h.c7, h.c2, ?_, ?_, ?_, ?_, ?_, ?_, ?_, ?_, ?_, ?_, ?_, ?_, ?_, ?_, ?_⟩, ?_, rl⟩
  · exact h.dir.last.keep fun k hk => samed k (mem_dmut.2 (.inr (.inl hk))) (fun e => n1 (e ▸ hk))
  · exact h.dir.now.keep fun k hk => samed k (mem_dmut.2 (.inr (.inr (.inl hk)))) (fun e => n2 (e ▸ hk))
  · exact own_keep h.dir.row fun k hk => samed k (mem_dmut.2 (.inr (.inr (.inr hk)))) (fun e => n3 (e ▸ hk))
  · exact fun c hc => (h.dir.chg c hc).keep fun k hk => samel k ((h.dir.chg c hc).lt k hk).2 (by have := h.l3 c hc k hk; omega)
  · intro a ha
    have hA := h.arm a ha
    obtain ⟨ty, hb0⟩ := hA.blk
    exact hA.keep (samel _ (lt_of_block hb0) (by have := h.l2 a ha; omega)) (fun k hk => samel k (hA.lt k hk).2 (by have := h.l2g a ha k hk; omega)) F.but.size
  · intro y hy
    replace hy := sub y hy
    exact (h.fil y hy).keep (fun k hk => samel k ((h.fil y hy).lt k hk).2 (by have := h.l4 y hy k hk; omega)) (fun c hc k hk => samel k (((h.fil y hy).chg c hc).lt k hk).2 (by have := h.l3e y hy c hc k hk; omega))
  · exact fun y hy => h.rp y (sub y hy)
  · intro y hy
    obtain ⟨h1, nm, hh⟩ := mem_named.1 hy
    exact ⟨F.all nm _ hh y h1 rfl, (h.at_ y h1).2⟩
  · exact fun y hy z hz hn => h.one y (sub y hy) z (sub z hz) hn
  · exact inn
  · exact fun nm num hh => inn nm num (hnl ▸ hh)
  · intro c hc
    have hc' : c ∈ x.ls := hc
    rw [hls] at hc'
    cases hc'
  · exact fun k hk => (rl k (h.dir.lt k hk).2).trans (h.l0 k hk)
  · intro k hk
    have e : mb = k := by simpa [mblk] using hk
    subst e
    exact relab_new F.new
  · intro a ha
    obtain ⟨ty, hb0⟩ := (h.arm a ha).blk
    exact (rl _ (lt_of_block hb0)).trans (h.l2 a ha)
  · exact fun a ha k hk => (rl k ((h.arm a ha).lt k hk).2).trans (h.l2g a ha k hk)
  · exact fun c hc k hk => (rl k ((h.dir.chg c hc).lt k hk).2).trans (h.l3 c hc k hk)
  · exact fun y hy c hc k hk => (rl k (((h.fil y (sub y hy)).chg c hc).lt k hk).2).trans (h.l3e y (sub y hy) c hc k hk)
  · exact fun y hy k hk => (rl k ((h.fil y (sub y hy)).lt k hk).2).trans (h.l4 y (sub y hy) k hk)
  · refine ⟨F.but.os, F.but.tape, F.but.output, F.but.size, fun k hk hn => same k hk fun e => hn (.inl (e ▸ by simp [Dr.mut])), fun k hk => ?_⟩
    rcases hk with hk | hk | hk | ⟨y, hy, hk⟩
    · exact .inl (.inl hk)
    · have e : mb = k := by simpa [mblk] using hk
      subst e
      exact .inr F.new
    · exact .inl (.inr (.inr (.inl hk)))
    · exact .inl (.inr (.inr (.inr ⟨y, sub y hy, hk⟩)))
theorem Dk.forget {w w' : World} {base d : Nat} {x : Dr} {am : Option Am} {fo : Option (DataW Unit)} {nf made : Nat} {es : List En} {lab : Nat → Nat} (h : Dk w base d x am fo nf made es lab) {mb n : Nat} {D' : DataW Unit} (F : Fgt w w' d x es mb D' n) (hls : x.ls = []) (hnl : x.last = x.now) (hbase : base ≤ w.heap.size) :
    ∃ lab', Dk w' base d { x with c6 := .map (some mb) } am (some D') n made (namedOf es x.now) lab' ∧ Kt w w' d x am es { x with c6 := .map (some mb) } am (namedOf es x.now) := by
  obtain ⟨lab', h1, h2, _⟩ := h.forget' F hls hnl hbase
  exact ⟨lab', h1, h2⟩
end Go.Proofs.Ytkmohpdcchpndaa
