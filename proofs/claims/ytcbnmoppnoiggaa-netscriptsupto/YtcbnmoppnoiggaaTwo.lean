/-
  Two nets, and the document's of each.
-/
import Derived.Test.YtcbnmoppnoiggaaDoes3
namespace Go.Proofs.Ytcbnmoppnoiggaa
open Go.RowKit
set_option linter.unusedVariables false
set_option linter.unusedSimpArgs false
theorem does_any (c : Cl) : Does c := by
  by_cases h0 : c.kd = 0
  · exact does0 c h0
  by_cases h1 : c.kd = 1
  · exact does1 c h1
  by_cases h2 : c.kd = 2
  · exact does2 c h2
  by_cases h3 : c.kd = 3
  · exact does3 c h3
  by_cases h4 : c.kd = 4
  · exact does4 c h4
  by_cases h5 : c.kd = 5
  · exact does5 c h5
  by_cases h6 : c.kd = 6
  · exact does6 c h6
  by_cases h7 : c.kd = 7
  · exact does7 c h7
  exact does8 c ⟨h0, h1, h2, h3, h4, h5, h6, h7⟩
structure Two (w W : World) (oa ob : Option St) (A P B Q : Option Addr) (Da Na Db Nb : Nat) : Prop where
  pa : Po W w.heap.size oa
  pb : Po W w.heap.size ob
  ea : pn oa = A
  ea' : pn' oa = P
  eb : pn ob = B
  eb' : pn' ob = Q
  oba : Ob oa Da Na
  obb : Ob ob Db Nb
  ap : ∀ k ∈ oown oa, k ∉ oown ob
  bel : Below w.heap.size w W
variable {w W : World} {oa ob : Option St} {A P B Q : Option Addr} {Da Na Db Nb : Nat}
theorem Two.swap (h : Two w W oa ob A P B Q Da Na Db Nb) : Two w W ob oa B Q A P Db Nb Da Na := ⟨h.pb, h.pa, h.eb, h.eb', h.ea, h.ea', h.obb, h.oba, fun k h1 h2 => h.ap k h2 h1, h.bel⟩
theorem Two.like (h : Two w W oa ob A P B Q Da Na Db Nb) {wx : World} (e : Same wx W) : Two w wx oa ob A P B Q Da Na Db Nb :=
  ⟨h.pa.far fun _ _ => by rw [e.heap], h.pb.far fun _ _ => by rw [e.heap], h.ea, h.ea', h.eb, h.eb', h.oba, h.obb, h.ap, ⟨e.os.trans h.bel.os, e.tape.trans h.bel.tape, e.output.trans h.bel.output, by rw [e.heap]; exact h.bel.size, fun k hk => by rw [e.heap]; exact h.bel.block k hk⟩⟩
theorem same_drew (W : World) : Same W.drew W := ⟨rfl, rfl, rfl, rfl⟩
/-- what a call that came in is -/
structure Came (w : World) (c : Cl) : Prop where
  nm : c.nm.size ≤ maxLen
  wf : (Lit.int .i64 c.nn).wf = true
  bs : Bs w c.d.a c.d.n c.d.cap c.d.zs
theorem Two.does (h : Two w W oa ob A P B Q Da Na Db Nb) (c : Cl) (hc : Came w c) (hN : Na < 1000000000) (hD : Da + c.d.n ≤ 1048576) :
    Calls Try.prog 8 #[.pointer A, .pointer P, .agg #[.int .i64 c.kd, .string c.nm, .int .i64 c.cn, .int .i64 c.sd, .int .i64 c.nn, .slice c.d.a c.d.n c.d.cap]] W fun e W' => e = .returned (.bool true) ∧ ∃ oa', Two w W' oa' ob A P B Q (Da + c.d.n) (Na + 1) Db Nb := by
  have hb := bounds_i64 hc.wf
  have := does_any c W w.heap.size oa Da Na ⟨h.pa, h.oba, hN, hD, hc.nm, hc.wf, by omega, fun W2 hB => hc.bs.below (h.bel.trans hB), h.bel.size⟩
  rw [h.ea, h.ea'] at this
  refine this.mono fun e W' ⟨he, oa', hM⟩ => ⟨he, oa', ?_⟩
  have lta := h.pa.lt
  have ltb := h.pb.lt
  refine ⟨hM.pr, h.pb.far fun k hk => hM.turn.block k (ltb k hk).2 (fun hm => h.ap k hm hk), hM.e.trans h.ea, hM.e'.trans h.ea', h.eb, h.eb', hM.ob, h.obb, fun k hk hm => ?_, h.bel.trans (hM.turn.below h.bel.size (fun k hk => (lta k hk).1))⟩
  rcases hM.sub k hk with h' | h'
  · exact h.ap k h' hm
  · have := (ltb k hm).2; omega
theorem Two.under (h : Two w W oa ob A P B Q Da Na Db Nb) (hD : Da ≤ 1048576) (conn side : Int) :
    ∃ E : Int, Calls Try.prog 9 #[.pointer A, .int .i64 conn, .int .i64 side] W (fun e w1 => w1 = W ∧ e = .returned (.int .i64 E)) ∧ Calls Try.prog 10 #[.pointer P, .int .i64 conn, .int .i64 side] W fun e w2 => e = .returned (.int .i64 E) ∧ Same w2 W := by
  obtain ⟨E, h1, h2⟩ := under_o h.pa Da Na h.oba hD conn side
  rw [h.ea] at h1
  have h3 := h2 W (Same.refl W)
  rw [h.ea'] at h3
  exact ⟨E, h1, h3⟩
/-- does, and Under of both behind it -/
theorem Two.step (h : Two w W oa ob A P B Q Da Na Db Nb) (c : Cl) (hc : Came w c) (hN : Na < 1000000000) (hD : Da + c.d.n ≤ 1048576) :
    Calls Try.prog 8 #[.pointer A, .pointer P, .agg #[.int .i64 c.kd, .string c.nm, .int .i64 c.cn, .int .i64 c.sd, .int .i64 c.nn, .slice c.d.a c.d.n c.d.cap]] W fun e W' => e = .returned (.bool true) ∧ Below w.heap.size w W' ∧ ∃ E : Int, Calls Try.prog 9 #[.pointer A, .int .i64 c.cn, .int .i64 c.sd] W' (fun e w1 => w1 = W' ∧ e = .returned (.int .i64 E)) ∧ Calls Try.prog 10 #[.pointer P, .int .i64 c.cn, .int .i64 c.sd] W' fun e w2 => e = .returned (.int .i64 E) ∧ Below w.heap.size w w2 ∧ ∃ oa', Two w w2 oa' ob A P B Q (Da + c.d.n) (Na + 1) Db Nb := by
  refine (h.does c hc hN hD).mono fun e W' ⟨he, oa', h2⟩ => ?_
  obtain ⟨E, h3, h4⟩ := h2.under hD c.cn c.sd
  exact ⟨he, h2.bel, E, h3, h4.mono fun e2 w2 ⟨he2, hs⟩ => ⟨he2, (h2.like hs).bel, oa', h2.like hs⟩⟩
def St.new (b b' : Nat) : St := ⟨b, .slice none 0 0, .map none, [], fun _ => 0, 0, b', .slice none 0 0, .slice none 0 0, .slice none 0 0, [], [], []⟩
theorem pr_fresh {W : World} {base b b' : Nat} (h1 : W.heap[b]? = some (.cells #[.slice none 0 0, .map none] 55 (0, 0))) (h2 : W.heap[b']? = some (.cells #[.slice none 0 0, .slice none 0 0, .slice none 0 0] 30 (0, 0))) (hb : base ≤ b) (hb' : base ≤ b') : Pr W base (St.new b b') := by
  refine ⟨⟨h1, hb, World.ownsRow_nil _ _ _ _, (fun c h => by cases h), by simp [blocks, St.new, Value.ownBlock], by simp [St.new]⟩, .inl ⟨rfl, fun _ => rfl⟩, ⟨h2, hb', World.ownsRow_nil _ _ _ _, World.ownsRow_nil _ _ _ _, World.ownsRow_nil _ _ _ _, (fun c h => by cases h), by simp [rblocks, St.new, Value.ownBlock], by simp [St.new]⟩, rfl, (fun i c r h => by simp [St.new] at h), rfl, by simp [St.new], fun nm => rfl, (fun t h => by cases h), ?_⟩
  intro k hk hk'
  have e1 : k = b := by simpa [St.own, St.new, blocks, mblk, Value.ownBlock] using hk
  have e2 : k = b' := by simpa [St.own', St.new, rblocks, Value.ownBlock] using hk'
  rw [← e1, e2] at h1
  rw [h2] at h1
  cases h1
theorem own_new (b b' : Nat) : oown (some (St.new b b')) = [b, b'] := by simp [oown, St.own, St.own', St.new, blocks, mblk, rblocks, Value.ownBlock]
theorem ob_new (b b' : Nat) : Ob (some (St.new b b')) 0 0 := ⟨(fun r h => by cases h), Nat.le_refl _, Nat.le_refl _⟩
/-- two new nets; of the one there may be none -/
theorem two_start {w W : World} {b1 b2 b3 b4 : Nat} (h1 : W.heap[b1]? = some (.cells #[.slice none 0 0, .map none] 55 (0, 0))) (h2 : W.heap[b2]? = some (.cells #[.slice none 0 0, .map none] 55 (0, 0))) (h3 : W.heap[b3]? = some (.cells #[.slice none 0 0, .slice none 0 0, .slice none 0 0] 30 (0, 0))) (h4 : W.heap[b4]? = some (.cells #[.slice none 0 0, .slice none 0 0, .slice none 0 0] 30 (0, 0)))
    (l1 : w.heap.size ≤ b1) (l2 : w.heap.size ≤ b2) (l3 : w.heap.size ≤ b3) (l4 : w.heap.size ≤ b4) (n12 : b1 ≠ b2) (n14 : b1 ≠ b4) (n32 : b3 ≠ b2) (n34 : b3 ≠ b4) (hB : Below w.heap.size w W) :
    Two w W (some (St.new b1 b3)) (some (St.new b2 b4)) (some ⟨b1, 0, none⟩) (some ⟨b3, 0, none⟩) (some ⟨b2, 0, none⟩) (some ⟨b4, 0, none⟩) 0 0 0 0 ∧ Two w W none (some (St.new b2 b4)) none none (some ⟨b2, 0, none⟩) (some ⟨b4, 0, none⟩) 0 0 0 0 := by
  refine ⟨⟨pr_fresh h1 h3 l1 l3, pr_fresh h2 h4 l2 l4, rfl, rfl, rfl, rfl, ob_new _ _, ob_new _ _, ?_, hB⟩, ⟨trivial, pr_fresh h2 h4 l2 l4, rfl, rfl, rfl, rfl, trivial, ob_new _ _, (fun k h => by cases h), hB⟩⟩
  rw [own_new, own_new]
  intro k hk hk'
  simp at hk hk'
  rcases hk with rfl | rfl <;> rcases hk' with rfl | rfl <;> contradiction
/-- how many connections -/
theorem Two.conns (h : Two w W oa ob A P B Q Da Na Db Nb) : (oa = none ∧ A = none ∧ P = none) ∨ ∃ (n : Nat) (a' b' : Nat) (ao : Option Addr) (c : Nat), n ≤ 4096 ∧ A = some ⟨a', 0, none⟩ ∧ P = some ⟨b', 0, none⟩ ∧ W.cell? ⟨b', 0, none⟩ = some (.slice ao n c) ∧ ∀ W2, Same W2 W → Calls Try.prog 11 #[.pointer A] W2 fun e w' => w' = W2 ∧ e = .returned (.int .i64 n) := by
  cases oa with
  | none => exact .inl ⟨rfl, h.ea.symm, h.ea'.symm⟩
  | some s =>
    have hp : Pr W w.heap.size s := h.pa
    have hr := hp.ref.net
    obtain ⟨ao, cap, e⟩ := RNet.row_shape hp.ref.crow
    have hA : some (⟨s.b, 0, none⟩ : Addr) = A := h.ea
    have hP : some (⟨s.b', 0, none⟩ : Addr) = P := h.ea'
    refine .inr ⟨s.cs.length, s.b, s.b', ao, cap, hp.net.few, hA.symm, hP.symm, ?_, fun W2 hs => ?_⟩
    · rw [cell_block hr 0, e, hp.len]; rfl
    · rw [← hA]
      exact conns_any w.heap.size s.b s.row s.mv s.cs W2 (hp.like hs).net
end Go.Proofs.Ytcbnmoppnoiggaa
