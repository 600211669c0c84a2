/-
  A whole disk: its directory is turned; an operation's end.
-/
import Derived.Test.YtkmohpdcchpndaaDk
namespace Go.Proofs.Ytkmohpdcchpndaa
open Go.RowKit
set_option linter.unusedVariables false
set_option linter.unusedSimpArgs false
set_option maxRecDepth 100000
/-- all numbers that the directory has, or may come to have, are files' -/
structure Numbers (x : Dr) (es : List En) : Prop where
  named : ∀ nm num, Has1 x.now nm num → ∃ e ∈ es, num = e.num
  lasts : ∀ nm num, Has1 x.last nm num → ∃ e ∈ es, num = e.num
  loose : ∀ c ∈ x.ls, (∀ nm num, c.c = .nm nm num → ∃ e ∈ es, num = e.num) ∧ (∀ fr to_ num, c.c = .rn fr to_ num → ∃ e ∈ es, num = e.num)
theorem Dk.numbers {w : World} {base d : Nat} {x : Dr} {am : Option Am} {fo : Option (DataW Unit)} {nf made : Nat} {es : List En} {lab : Nat → Nat} (h : Dk w base d x am fo nf made es lab) : Numbers x es := ⟨h.named, h.lasts, h.loose⟩
theorem Dk.dirs {w w' : World} {base d : Nat} {x x' : Dr} {am : Option Am} {fo : Option (DataW Unit)} {nf made : Nat} {es : List En} {lab : Nat → Nat} (h : Dk w base d x am fo nf made es lab) (t : Dt w w' base d x x') (hrd : Rd x'.last x'.ls x'.now) (h2 : x'.c2 = x.c2) (h6 : x'.c6 = x.c6) (h7 : x'.c7 = x.c7) (hN : Numbers x' es) (hls : ∀ c ∈ x'.ls, c ∈ x.ls ∨ ∀ k ∈ c.ro, k < w.heap.size ∧ lab k = 3) :
    Dk w' base d x' am fo nf made es (Ytkmohpdcchpndaa.relab lab w.heap.size 0) ∧ Kt w w' d x am es x' am es := by
  have same : ∀ k, k < w.heap.size → lab k ≠ 0 → w'.heap[k]? = w.heap[k]? := fun k hk hn => t.turn.block k hk fun hm => hn (h.l0 k hm)
  have ro3 : ∀ c ∈ x'.ls, ∀ k ∈ c.ro, k < w.heap.size ∧ lab k = 3 := fun c hc k hk => (hls c hc).elim (fun hm => ⟨((h.dir.chg c hm).lt k hk).2, h.l3 c hm k hk⟩) (fun h' => h' k hk)
  have rl : ∀ k, k < w.heap.size → Ytkmohpdcchpndaa.relab lab w.heap.size 0 k = lab k := fun k hk => relab_old hk
  refine ⟨⟨t.fil, hrd, ?_, h7.trans h.c7, h2.trans h.c2, ?_, ?_, h.rp, h.at_, h.one, hN.named, hN.lasts, hN.loose, ?_, ?_, ?_, ?_, ?_, ?_, ?_⟩, ?_⟩
  · rw [h6]
    exact h.fm.keep fun k hk => same k (h.fm.low hk).2 (by have := h.l1 k hk; omega)
  · intro a ha
    have hA := h.arm a ha
    obtain ⟨ty, hb0⟩ := hA.blk
    exact hA.keep (same _ (lt_of_block hb0) (by have := h.l2 a ha; omega)) (fun k hk => same k (hA.lt k hk).2 (by have := h.l2g a ha k hk; omega)) t.turn.size
  · intro y hy
    exact (h.fil y hy).keep (fun k hk => same k ((h.fil y hy).lt k hk).2 (by have := h.l4 y hy k hk; omega)) (fun c hc k hk => same k (((h.fil y hy).chg c hc).lt k hk).2 (by have := h.l3e y hy c hc k hk; omega))
  · intro k hk
    rcases t.sub k hk with h' | h'
    · exact (rl k (h.dir.lt k h').2).trans (h.l0 k h')
    · exact relab_new h'
  · intro k hk
    rw [h6] at hk
    exact (rl k (h.fm.low hk).2).trans (h.l1 k hk)
  · intro a ha
    obtain ⟨ty, hb0⟩ := (h.arm a ha).blk
    exact (rl _ (lt_of_block hb0)).trans (h.l2 a ha)
  · exact fun a ha k hk => (rl k ((h.arm a ha).lt k hk).2).trans (h.l2g a ha k hk)
  · intro c hc k hk
    have := ro3 c hc k hk
    exact (rl k this.1).trans this.2
  · exact fun y hy c hc k hk => (rl k (((h.fil y hy).chg c hc).lt k hk).2).trans (h.l3e y hy c hc k hk)
  · exact fun y hy k hk => (rl k ((h.fil y hy).lt k hk).2).trans (h.l4 y hy k hk)
  · refine ⟨t.turn.os, t.turn.tape, t.turn.output, t.turn.size, fun k hk hn => t.turn.block k hk fun hm => hn (.inl hm), fun k hk => ?_⟩
    rcases hk with hk | hk | hk | hk
    · exact (t.sub k hk).imp .inl id
    · exact .inl (.inr (.inl (h6 ▸ hk)))
    · exact .inl (.inr (.inr (.inl hk)))
    · exact .inl (.inr (.inr (.inr hk)))
/-- nothing is to come: an operation's end -/
theorem done_none (d : Nat) (w : World) (h : w.cell? ⟨d, 2, none⟩ = some (.pointer none)) : Calls Try.prog 34 #[.pointer (some ⟨d, 0, none⟩)] w fun e w' => e = .returned (.int .i64 0) ∧ w' = w := by
  have HG : Hid (Calls Try.prog 31 #[.pointer (some ⟨d, 0, none⟩)] w fun e w' => e = .returned (.bool false) ∧ w' = w) := goes_none d w h
  go_enter Try.func34, Try.ntmps34
  go_wp2_with (first | (go_at_call 31; refine HG.out.mono ?_; rintro e w1 ⟨rfl, rfl⟩))
  go_ret
  exact ⟨rfl, rfl⟩
/-- .. and where the power fails later -/
theorem done_later (d ab k : Nat) (w : World) (h : w.cell? ⟨d, 2, none⟩ = some (.pointer (some ⟨ab, 0, none⟩))) (ha : w.cell? ⟨ab, 0, none⟩ = some (.int .i64 (k + 1 : Nat))) (hz : w.frozen? ⟨ab, 0, none⟩ = false) (hk : k < 9223372036854775807) : Calls Try.prog 34 #[.pointer (some ⟨d, 0, none⟩)] w fun e w' => e = .returned (.int .i64 0) ∧ w' = w.setCell ⟨ab, 0, none⟩ (.int .i64 k) := by
  have HG : Hid (Calls Try.prog 31 #[.pointer (some ⟨d, 0, none⟩)] w fun e w' => e = .returned (.bool false) ∧ w' = w) := by
    have := goes_some d ab (k + 1) w h ha
    rwa [show (k + 1 == 0) = false from rfl] at this
  have hs : ((k + 1 : Nat) : Int) - 1 = k := by omega
  go_enter Try.func34, Try.ntmps34
  go_wp2_with (first | (go_at_call 31; refine HG.out.mono ?_; rintro e w1 ⟨rfl, rfl⟩))
  go_ret
  exact ⟨rfl, rfl⟩
end Go.Proofs.Ytkmohpdcchpndaa
