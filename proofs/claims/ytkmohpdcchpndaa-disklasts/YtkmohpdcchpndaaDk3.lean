/-
  A whole disk: a new file is laid beside the others.
-/
import Derived.Test.YtkmohpdcchpndaaRem
namespace Go.Proofs.Ytkmohpdcchpndaa
open Go.RowKit
set_option linter.unusedVariables false
set_option linter.unusedSimpArgs false
set_option maxRecDepth 100000
def noFile : Fs := ⟨.slice none 0 0, .slice none 0 0, .slice none 0 0, [], [], []⟩
theorem fil_new {w : World} {base fb : Nat} (h : w.heap[fb]? = some newFile) (hb : base ≤ fb) : Fil w base fb noFile := by
  refine ⟨h, hb, Buf.nil _ _, Buf.nil _ _, ?_, fun c hc => (by cases hc), by simp [Fs.mut, noFile, Value.ownBlock], fun c hc => (by cases hc)⟩
  exact ⟨rfl, .inl ⟨rfl, rfl⟩⟩
theorem mem_new {fb k : Nat} (h : k ∈ noFile.mut fb) : k = fb := by
  rw [mem_mut] at h
  simpa [noFile, Value.ownBlock] using h
theorem Fm.isTidy {w : World} {base : Nat} {mv : Value} {od : Option (DataW Unit)} {n : Nat} (h : Fm w base mv od n) : Go.Maps.Tidy (od.getD (.map [])) := by
  rcases h with ⟨_, rfl⟩ | ⟨m, D, _, rfl, _, _, ht⟩
  · exact Go.Maps.tidy_empty
  · exact ht
theorem Dk.add {w w' : World} {base d : Nat} {x : Dr} {am : Option Am} {fo : Option (DataW Unit)} {nf made : Nat} {es : List En} {lab : Nat → Nat} (h : Dk w base d x am fo nf made es lab) {mv' : Value} {fb : Nat} (A : Added w w' base d x.c0 x.c1 x.c2 x.lv x.lo x.nv x.c6 fo nf made mv' fb) (hbase : base ≤ w.heap.size) :
    ∃ lab', Dk w' base d { x with c6 := mv', c7 := .int .i64 (made + 1 : Nat) } am (some ((fo.getD (.map [])).put (fkey (made + 1)) (.lit (.int .i64 fb)))) (nf + 1) (made + 1) (es ++ [⟨made + 1, fb, noFile⟩]) lab' ∧ Kt w w' d x am es { x with c6 := mv', c7 := .int .i64 (made + 1 : Nat) } am (es ++ [⟨made + 1, fb, noFile⟩]) := by
  have hdl : lab d = 0 := h.l0 d (by simp [Dr.mut])
  have same : ∀ k, k < w.heap.size → k ≠ d → mblk x.c6 ≠ some k → w'.heap[k]? = w.heap[k]? := fun k hk h1 h2 => A.turn.block k hk (by simp [h1]; exact h2)
  have samel : ∀ k, k < w.heap.size → lab k ≠ 0 → lab k ≠ 1 → w'.heap[k]? = w.heap[k]? := fun k hk h1 h2 => same k hk (fun e => h1 (e ▸ hdl)) (fun e => h2 (h.l1 k e))
  have samed : ∀ k ∈ x.mut d, k ≠ d → w'.heap[k]? = w.heap[k]? := fun k hk h1 => same k (h.dir.lt k hk).2 h1 (fun e => by have := h.l1 k e; have := h.l0 k hk; omega)
  have fnew := A.new
  obtain ⟨lab', hlab⟩ : ∃ lab' : Nat → Nat, lab' = fun k => if k < w.heap.size then lab k else if k = fb then 4 + (made + 1) else 1 := ⟨_, rfl⟩
  have rl : ∀ k, k < w.heap.size → lab' k = lab k := fun k hk => by rw [hlab]; exact if_pos hk
  have rf : lab' fb = 4 + (made + 1) := by rw [hlab]; simp; omega
  have nod := (nod3 d (mblk x.lv) (mblk x.nv) x.lo.ownBlock).1 h.dir.nod
  obtain ⟨n1, n2, n3, _⟩ := nod
  have hat : ∀ e ∈ es, At1 (some ((fo.getD (.map [])).put (fkey (made + 1)) (.lit (.int .i64 fb)))) e.num e.b := fun e he => by
    obtain ⟨ha, hle⟩ := h.at_ e he
    cases fo with
    | none => obtain ⟨D, e1, _⟩ := ha; cases e1
    | some D => exact at_put_other ha (by omega) _
  refine ⟨lab', ⟨⟨A.blk, h.dir.low, ?_, ?_, ?_, ?_, h.dir.nod, h.dir.ap⟩, h.rd, A.fm, rfl, h.c2, ?_, ?_, ?_, ?_, ?_, ?_, ?_, ?_, ?_, ?_, ?_, ?_, ?_, ?_, ?_⟩, ?_⟩
  · exact h.dir.last.keep fun k hk => samed k (mem_dmut.2 (.inr (.inl hk))) (fun e => n1 (e ▸ hk))
  · exact h.dir.now.keep fun k hk => samed k (mem_dmut.2 (.inr (.inr (.inl hk)))) (fun e => n2 (e ▸ hk))
  · exact own_keep h.dir.row fun k hk => samed k (mem_dmut.2 (.inr (.inr (.inr hk)))) (fun e => n3 (e ▸ hk))
  · exact fun c hc => (h.dir.chg c hc).keep fun k hk => samel k ((h.dir.chg c hc).lt k hk).2 (by have := h.l3 c hc k hk; omega) (by have := h.l3 c hc k hk; omega)
  · intro a ha
    have hA := h.arm a ha
    obtain ⟨ty, hb0⟩ := hA.blk
    exact hA.keep (samel _ (lt_of_block hb0) (by have := h.l2 a ha; omega) (by have := h.l2 a ha; omega)) (fun k hk => samel k (hA.lt k hk).2 (by have := h.l2g a ha k hk; omega) (by have := h.l2g a ha k hk; omega)) A.turn.size
  · intro y hy
    rw [List.mem_append, List.mem_singleton] at hy
    rcases hy with hy | rfl
    · exact (h.fil y hy).keep (fun k hk => samel k ((h.fil y hy).lt k hk).2 (by have := h.l4 y hy k hk; omega) (by have := h.l4 y hy k hk; omega)) (fun c hc k hk => samel k (((h.fil y hy).chg c hc).lt k hk).2 (by have := h.l3e y hy c hc k hk; omega) (by have := h.l3e y hy c hc k hk; omega))
    · exact fil_new A.file (by show base ≤ fb; omega)
  · intro y hy
    rw [List.mem_append, List.mem_singleton] at hy
    rcases hy with hy | rfl
    · exact h.rp y hy
    · exact ⟨rfl, by simp [noFile]⟩
  · intro y hy
    rw [List.mem_append, List.mem_singleton] at hy
    rcases hy with hy | rfl
    · exact ⟨hat y hy, Nat.le_trans (h.at_ y hy).2 (Nat.le_succ _)⟩
    · exact ⟨at_put_same h.fm.isTidy _ _, Nat.le_refl _⟩
  · intro y hy z hz hn
    rw [List.mem_append, List.mem_singleton] at hy hz
    rcases hy with hy | rfl <;> rcases hz with hz | rfl
    · exact h.one y hy z hz hn
    · have := (h.at_ y hy).2; simp at hn; omega
    · have := (h.at_ z hz).2; simp at hn; omega
    · rfl
  · intro nm num hh
    obtain ⟨z, hz, e1⟩ := h.named nm num hh
    exact ⟨z, List.mem_append.2 (.inl hz), e1⟩
  · intro nm num hh
    obtain ⟨z, hz, e1⟩ := h.lasts nm num hh
    exact ⟨z, List.mem_append.2 (.inl hz), e1⟩
  · intro c hc
    refine ⟨fun nm num hh => ?_, fun fr to_ num hh => ?_⟩
    · obtain ⟨z, hz, e1⟩ := (h.loose c hc).1 nm num hh
      exact ⟨z, List.mem_append.2 (.inl hz), e1⟩
    · obtain ⟨z, hz, e1⟩ := (h.loose c hc).2 fr to_ num hh
      exact ⟨z, List.mem_append.2 (.inl hz), e1⟩
  · exact fun k hk => (rl k (h.dir.lt k hk).2).trans (h.l0 k hk)
  · intro k hk
    rcases A.at_ with e | ⟨m, e, hm⟩
    · rw [e] at hk
      exact (rl k (h.fm.low hk).2).trans (h.l1 k hk)
    · rw [e] at hk
      cases hk
      have hne : k ≠ fb := fun e2 => by
        subst e2
        rcases A.fm with ⟨e3, _⟩ | ⟨m', D, e3, _, _, ⟨es', ck, h4, _⟩, _⟩
        · rw [e3] at e; cases e
        · rw [e3] at e; cases e
          rw [A.file] at h4; cases h4
      rw [hlab]; simp [hne]; omega
  · intro a ha
    obtain ⟨ty, hb0⟩ := (h.arm a ha).blk
    exact (rl _ (lt_of_block hb0)).trans (h.l2 a ha)
  · exact fun a ha k hk => (rl k ((h.arm a ha).lt k hk).2).trans (h.l2g a ha k hk)
  · exact fun c hc k hk => (rl k ((h.dir.chg c hc).lt k hk).2).trans (h.l3 c hc k hk)
  · intro y hy c hc k hk
    rw [List.mem_append, List.mem_singleton] at hy
    rcases hy with hy | rfl
    · exact (rl k (((h.fil y hy).chg c hc).lt k hk).2).trans (h.l3e y hy c hc k hk)
    · cases hc
  · intro y hy k hk
    rw [List.mem_append, List.mem_singleton] at hy
    rcases hy with hy | rfl
    · exact (rl k ((h.fil y hy).lt k hk).2).trans (h.l4 y hy k hk)
    · rw [mem_new hk]; exact rf
  · refine ⟨A.turn.os, A.turn.tape, A.turn.output, A.turn.size, fun k hk hn => same k hk (fun e => hn (.inl (by simp [Dr.mut, e]))) (fun e => hn (.inr (.inl e))), fun k hk => ?_⟩
    rcases hk with hk | hk | hk | ⟨y, hy, hk⟩
    · exact .inl (.inl hk)
    · rcases A.at_ with e | ⟨m, e, hm⟩
      · exact .inl (.inr (.inl (e ▸ hk)))
      · have hk' : mblk mv' = some k := hk
        rw [e] at hk'; cases hk'
        exact .inr hm
    · exact .inl (.inr (.inr (.inl hk)))
    · rw [List.mem_append, List.mem_singleton] at hy
      rcases hy with hy | rfl
      · exact .inl (.inr (.inr (.inr ⟨y, hy, hk⟩)))
      · exact .inr (by rw [mem_new hk]; exact fnew)
end Go.Proofs.Ytkmohpdcchpndaa
