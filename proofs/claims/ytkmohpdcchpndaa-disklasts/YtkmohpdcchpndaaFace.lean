/-
  A whole disk: its first three cells are turned.
-/
import Derived.Test.YtkmohpdcchpndaaCrs
namespace Go.Proofs.Ytkmohpdcchpndaa
open Go.RowKit Go.Maps
set_option linter.unusedVariables false
set_option linter.unusedSimpArgs false
set_option maxRecDepth 100000
theorem Dk.face {w w' : World} {base d : Nat} {x : Dr} {am : Option Am} {fo : Option (DataW Unit)} {nf made : Nat} {es : List En} {lab : Nat → Nat} (h : Dk w base d x am fo nf made es lab) (hb : But d w w') {c0 c1 c2 : Value} {am' : Option Am} (hblk : w'.heap[d]? = some (.cells #[c0, c1, c2, x.lv, x.lo, x.nv, x.c6, x.c7] 69 (0, 0))) (ha : (am' = am ∧ c2 = x.c2) ∨ (am' = none ∧ c2 = .pointer none)) :
    Dk w' base d { x with c0 := c0, c1 := c1, c2 := c2 } am' fo nf made es lab ∧ Kt w w' d x am es { x with c0 := c0, c1 := c1, c2 := c2 } am' es := by
  have hdl : lab d = 0 := h.l0 d (by simp [Dr.mut])
  have same : ∀ k, k < w.heap.size → k ≠ d → w'.heap[k]? = w.heap[k]? := fun k hk hn => hb.block k hk hn
  have samel : ∀ k, k < w.heap.size → lab k ≠ 0 → w'.heap[k]? = w.heap[k]? := fun k hk hn => same k hk (fun e => hn (e ▸ hdl))
  obtain ⟨n1, n2, n3, _⟩ := (nod3 d (mblk x.lv) (mblk x.nv) x.lo.ownBlock).1 h.dir.nod
  have samed : ∀ k ∈ x.mut d, k ≠ d → w'.heap[k]? = w.heap[k]? := fun k hk h1 => same k (h.dir.lt k hk).2 h1
  have am_of : ∀ a, am' = some a → am = some a := fun a e => ha.elim (fun h' => h'.1 ▸ e) (fun h' => by rw [h'.1] at e; cases e)
  refine ⟨{ h with dir := ⟨hblk, h.dir.low, ?_, ?_, ?_, ?_, h.dir.nod, h.dir.ap⟩, fm := ?_, c2 := ?_, arm := ?_, fil := ?_, l2 := ?_, l2g := ?_ }, ?_⟩
  · exact h.dir.last.keep fun k hk => samed k (mem_dmut.2 (.inr (.inl hk))) (fun e => n1 (e ▸ hk))
  · exact h.dir.now.keep fun k hk => samed k (mem_dmut.2 (.inr (.inr (.inl hk)))) (fun e => n2 (e ▸ hk))
  · exact own_keep h.dir.row fun k hk => samed k (mem_dmut.2 (.inr (.inr (.inr hk)))) (fun e => n3 (e ▸ hk))
  · exact fun c hc => (h.dir.chg c hc).keep fun k hk => samel k ((h.dir.chg c hc).lt k hk).2 (by have := h.l3 c hc k hk; omega)
  · exact h.fm.keep fun k hk => samel k (h.fm.low hk).2 (by have := h.l1 k hk; omega)
  · rcases ha with ⟨rfl, e⟩ | ⟨rfl, e⟩
    · exact e.trans h.c2
    · exact e
  · intro a ha'
    have hA := h.arm a (am_of a ha')
    obtain ⟨ty, hb0⟩ := hA.blk
    exact hA.keep (samel _ (lt_of_block hb0) (by have := h.l2 a (am_of a ha'); omega)) (fun k hk => samel k (hA.lt k hk).2 (by have := h.l2g a (am_of a ha') k hk; omega)) hb.size
  · intro y hy
    exact (h.fil y hy).keep (fun k hk => samel k ((h.fil y hy).lt k hk).2 (by have := h.l4 y hy k hk; omega)) (fun c hc k hk => samel k (((h.fil y hy).chg c hc).lt k hk).2 (by have := h.l3e y hy c hc k hk; omega))
  · exact fun a ha' => h.l2 a (am_of a ha')
  · exact fun a ha' => h.l2g a (am_of a ha')
  · refine ⟨hb.os, hb.tape, hb.output, hb.size, fun k hk hn => same k hk fun e => hn (.inl (e ▸ by simp [Dr.mut])), fun k hk => ?_⟩
    rcases hk with hk | hk | ⟨a, ha', e⟩ | hk
    · exact .inl (.inl hk)
    · exact .inl (.inr (.inl hk))
    · exact .inl (.inr (.inr (.inl ⟨a, am_of a ha', e⟩)))
    · exact .inl (.inr (.inr (.inr hk)))
theorem odMap_do {c : Dc} {od : Option (DataW Unit)} (h : odMap od) : odMap (c.do od) := by
  have pm : ∀ (D : DataW Unit) (k : Lit) (v : DataW Unit), IsMap D → IsMap (D.put k v) := fun D k v hD => by
    obtain ⟨es, rfl⟩ := hD
    exact ⟨_, rfl⟩
  intro D e
  cases c with
  | nm name k =>
    cases od with
    | none => cases e; exact pm _ _ _ ⟨[], rfl⟩
    | some D0 => cases e; exact pm _ _ _ (h D0 rfl)
  | rn fr to_ k =>
    cases od with
    | none => cases e
    | some D0 => cases e; exact pm _ _ _ (isMap_del (h D0 rfl) _)
  | rm name =>
    cases od with
    | none => cases e
    | some D0 => cases e; exact isMap_del (h D0 rfl) _
theorem numbers_mid {es : List En} : ∀ {l : List Ld} {b z : Option (DataW Unit)}, Rd b l z → odMap b → (∀ nm num, Has1 b nm num → ∃ e ∈ es, num = e.num) → (∀ c ∈ l, (∀ nm num, c.c = .nm nm num → ∃ e ∈ es, num = e.num) ∧ (∀ fr to_ num, c.c = .rn fr to_ num → ∃ e ∈ es, num = e.num)) → ∀ nm num, Has1 z nm num → ∃ e ∈ es, num = e.num
  | [], b, z, h, _, hb, _, nm, num, hh => by cases h; exact hb nm num hh
  | c :: r, b, z, h, hm, hb, hl, nm, num, hh => by
    refine numbers_mid h.2 (odMap_do hm) (fun nm' num' hh' => ?_) (fun c' hc' => hl c' (by simp [hc'])) nm num hh
    have hc := hl c (by simp)
    rcases has_do hm hh' with ⟨n', k, e, rfl⟩ | ⟨fr, to_, k, e, rfl⟩ | h'
    · obtain ⟨e', he', e2⟩ := hc.1 n' k e
      exact ⟨e', he', by rw [e2]⟩
    · obtain ⟨e', he', e2⟩ := hc.2 fr to_ k e
      exact ⟨e', he', by rw [e2]⟩
    · exact hb nm' num' h'
theorem Dk.failed {w : World} {base d : Nat} {x g : Dr} {am : Option Am} {fo : Option (DataW Unit)} {nf made : Nat} {es : List En} {lab : Nat → Nat} (h : Dk w base d x am fo nf made es lab) {cs : List Int} {i i' : Nat} (hl : DLasts x cs i g.last i') (e1 : g.now = g.last) (e2 : g.ls = []) : Numbers g es := by
  obtain ⟨k, _, _, hr, _⟩ := hl
  have hz : ∀ nm num, Has1 g.last nm num → ∃ e ∈ es, num = e.num := numbers_mid hr h.dir.last.isMap h.lasts (fun c hc => h.loose c (List.mem_of_mem_take hc))
  exact ⟨fun nm num hh => hz nm num (e1 ▸ hh), hz, fun c hc => by rw [e2] at hc; cases hc⟩
end Go.Proofs.Ytkmohpdcchpndaa
