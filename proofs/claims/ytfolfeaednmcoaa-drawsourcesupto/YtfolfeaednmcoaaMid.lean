/- A source and the document's, and what was left behind of both: the calls. -/
import Derived.Test.YtfolfeaednmcoaaSrcNil
namespace Go.Proofs.Ytfolfeaednmcoaa
open Go.RowKit
set_option linter.unusedVariables false
set_option linter.unusedSimpArgs false
/-- the blocks of X are apart from all sources' -/
def Mid (w : World) (base sb mb : Nat) (l t : Option Addr) (ra rb : List Int) (sa s2 : Int) (X : List Nat) : Prop := ∃ (rc : List Int) (sc : Int) (b1 b2 b3 b4 : List Nat), Inv w base sb mb l t ra rb sa s2 rc rc sc sc b1 b2 b3 b4 ∧ rc.length ≤ 1048576 ∧ ∀ k ∈ X, k < w.heap.size ∧ k ∉ b1 ∧ k ∉ b2 ∧ k ∉ b3 ∧ k ∉ b4
def Kp (w w' : World) (base : Nat) (X : List Nat) : Prop := Below base w w' ∧ ∀ k ∈ X, w'.heap[k]? = w.heap[k]?
theorem Kp.trans {w w1 w2 : World} {base : Nat} {X : List Nat} (h : Kp w w1 base X) (g : Kp w1 w2 base X) : Kp w w2 base X := ⟨h.1.trans g.1, fun k hk => (g.2 k hk).trans (h.2 k hk)⟩
variable {w w' : World} {base sb mb : Nat} {l t : Option Addr} {ra rb : List Int} {sa s2 : Int} {X : List Nat}
theorem Mid.lo (h : Mid w base sb mb l t ra rb sa s2 X) : base ≤ w.heap.size := by
  obtain ⟨rc, sc, b1, b2, b3, b4, hI, hr, hX⟩ := h
  obtain ⟨a, n, c, t, ws, h1, h2, h3, h4, h5, h6, rfl⟩ := hI.s
  have := lt_of_block h1; omega
theorem Mid.keep (h : Mid w base sb mb l t ra rb sa s2 X) (hs : w.heap.size ≤ w'.heap.size) (hk : ∀ k, base ≤ k → k < w.heap.size → k ∉ X → w'.heap[k]? = w.heap[k]?) : Mid w' base sb mb l t ra rb sa s2 X := by
  obtain ⟨rc, sc, b1, b2, b3, b4, hI, hr, hX⟩ := h
  refine ⟨rc, sc, b1, b2, b3, b4, hI.keep fun k h1 h2 h3 => hk k h1 h2 fun h4 => ?_, hr, fun k hk => ⟨Nat.lt_of_lt_of_le (hX k hk).1 hs, (hX k hk).2⟩⟩
  have := (hX k h4).2
  rcases h3 with h | h | h | h <;> simp [h] at this
theorem Mid.drewN (h : Mid w base sb mb l t ra rb sa s2 X) (q : Nat) : Mid (w.drewN q) base sb mb l t ra rb sa s2 X := h.keep (Nat.le_refl _) fun _ _ _ _ => rfl
theorem Mid.drew (h : Mid w base sb mb l t ra rb sa s2 X) : Mid w.drew base sb mb l t ra rb sa s2 X := h.keep (Nat.le_refl _) fun _ _ _ _ => rfl
/-- new blocks are apart from all -/
theorem Mid.fresh (h : Mid w base sb mb l t ra rb sa s2 []) (hb : Below w.heap.size w w') (Y : List Nat) (hY : ∀ k ∈ Y, w.heap.size ≤ k ∧ k < w'.heap.size) : Mid w' base sb mb l t ra rb sa s2 Y := by
  obtain ⟨rc, sc, b1, b2, b3, b4, hI, hr, hX⟩ := h
  refine ⟨rc, sc, b1, b2, b3, b4, hI.below hb, hr, fun k hk => ⟨(hY k hk).2, fun h => ?_, fun h => ?_, fun h => ?_, fun h => ?_⟩⟩
  · have := (hI.s.lt k h).2; have := (hY k hk).1; omega
  · have := (hI.m.lt k h).2; have := (hY k hk).1; omega
  · have := (hI.l.lt3 k h).2; have := (hY k hk).1; omega
  · have := (hI.l.lt4 k h).2; have := (hY k hk).1; omega
theorem Mid.sub (h : Mid w base sb mb l t ra rb sa s2 X) {Y : List Nat} (hY : ∀ k ∈ Y, k ∈ X) : Mid w base sb mb l t ra rb sa s2 Y := by
  obtain ⟨rc, sc, b1, b2, b3, b4, hI, hr, hX⟩ := h
  exact ⟨rc, sc, b1, b2, b3, b4, hI, hr, fun k hk => hX k (hY k hk)⟩
theorem Mid.stp (h : Mid w base sb mb l t ra rb sa s2 X) {g : Nat} (hs : Stp w w' [g] [g]) (hg : g ∈ X) : Mid w' base sb mb l t ra rb sa s2 X := h.keep hs.size fun k _ hk hX => hs.old k hk (by simp; intro e; exact hX (e ▸ hg))
theorem mid_s (h : Mid w base sb mb l t ra rb sa s2 X) : ∃ b1, DS w base sb ra sa b1 ∧ ∀ w' ra' sa' b1', DS w' base sb ra' sa' b1' → Stp w w' b1 b1' → Mid w' base sb mb l t ra' rb sa' s2 X ∧ Kp w w' base X := by
  have hb := h.lo
  obtain ⟨rc, sc, b1, b2, b3, b4, hI, hr, hX⟩ := h
  refine ⟨b1, hI.s, fun w' ra' sa' b1' hD hs => ⟨⟨rc, sc, b1', b2, b3, b4, hI.stepS hD hs, hr, fun k hk => ⟨Nat.lt_of_lt_of_le (hX k hk).1 hs.size, fun h1 => ?_, (hX k hk).2.2⟩⟩, hs.below (fun k hk => (hI.s.lt k hk).1) hb, fun k hk => hs.old k (hX k hk).1 (hX k hk).2.1⟩⟩
  rcases hs.new k h1 with h2 | h2
  · exact (hX k hk).2.1 h2
  · have := (hX k hk).1; omega
theorem mid_m (h : Mid w base sb mb l t ra rb sa s2 X) : ∃ b2, RS w base mb rb s2 b2 ∧ ∀ w' rb' s2' b2', RS w' base mb rb' s2' b2' → Stp w w' b2 b2' → Mid w' base sb mb l t ra rb' sa s2' X ∧ Kp w w' base X := by
  have hb := h.lo
  obtain ⟨rc, sc, b1, b2, b3, b4, hI, hr, hX⟩ := h
  refine ⟨b2, hI.m, fun w' rb' s2' b2' hD hs => ⟨⟨rc, sc, b1, b2', b3, b4, hI.stepM hD hs, hr, fun k hk => ⟨Nat.lt_of_lt_of_le (hX k hk).1 hs.size, (hX k hk).2.1, fun h1 => ?_, (hX k hk).2.2.2⟩⟩, hs.below (fun k hk => (hI.m.lt k hk).1) hb, fun k hk => hs.old k (hX k hk).1 (hX k hk).2.2.1⟩⟩
  rcases hs.new k h1 with h2 | h2
  · exact (hX k hk).2.2.1 h2
  · have := (hX k hk).1; omega
theorem push_mid (h : Mid w base sb mb l t ra rb sa s2 X) (ad : Addr) (m gc : Nat) (gs : List Int) (hm : gs.length = m) (hU : Ul w (some ad) gs) (hn : ra.length ≤ 1048576) (hg : m ≤ 1048576) :
    Calls Try.prog 24 #[.pointer (some ⟨sb, 0, none⟩), .slice (some ad) m gc] w fun e w' => e = .returned (.tuple #[]) ∧ Mid w' base sb mb l t (ra ++ gs) rb sa s2 X ∧ Kp w w' base X := by
  subst hm
  obtain ⟨b1, hD, hF⟩ := mid_s h
  exact (push_any sb base ad gc gs ra sa b1 w hD hU h.lo hn hg).mono fun e w' ⟨he, bs', h1, h2⟩ => ⟨he, hF _ _ _ _ h1 h2⟩
theorem next_mid_s (h : Mid w base sb mb l t ra rb sa s2 X) (hn : ra.length ≤ 1048576) :
    Calls Try.prog 27 #[.pointer (some ⟨sb, 0, none⟩)] w fun e w' => e = .returned (.int .u64 (popV ra sa)) ∧ Mid w' base sb mb l t (popR ra) rb (popS ra sa) s2 X ∧ Kp w w' base X := by
  obtain ⟨b1, hD, hF⟩ := mid_s h
  exact (next_ds sb base ra sa b1 w hD h.lo hn).mono fun e w' ⟨he, bs', h1, h2⟩ => ⟨he, hF _ _ _ _ h1 h2⟩
theorem next_mid_m (h : Mid w base sb mb l t ra rb sa s2 X) (hn : rb.length ≤ 1048576) :
    Calls Try.prog 28 #[.pointer (some ⟨mb, 0, none⟩)] w fun e w' => e = .returned (.int .u64 (popV rb s2)) ∧ Mid w' base sb mb l t ra (popR rb) sa (popS rb s2) X ∧ Kp w w' base X := by
  obtain ⟨b1, hD, hF⟩ := mid_m h
  exact (next_rs mb base rb s2 b1 w hD h.lo hn).mono fun e w' ⟨he, bs', h1, h2⟩ => ⟨he, hF _ _ _ _ h1 h2⟩
theorem left_mid (h : Mid w base sb mb l t ra rb sa s2 X) (hn : ra.length ≤ 1048576) : Calls Try.prog 29 #[.pointer (some ⟨sb, 0, none⟩)] w fun e w' => e = .returned (.int .i64 (ra.length : Nat)) ∧ ∃ q, w' = w.drewN q := by
  obtain ⟨b1, hD, hF⟩ := mid_s h
  exact left_ds sb base ra sa b1 w hD hn
/-- the document's words -/
theorem words_mid (h : Mid w base sb mb l t ra rb sa s2 X) : ∃ am cm, w.cell? ⟨mb, 0, none⟩ = some (.slice am rb.length cm) ∧ w.frozen? ⟨mb, 0, none⟩ = false ∧ w.ownsRow base 22 1 (.slice am rb.length cm) rb.length (uvals rb) ∧
    ∀ (v' : Value) (w' : World) (zs : List Int), w'.ownsRow base 22 1 v' (rb.length + zs.length) (uvals rb ++ uvals zs) → w.grownBy w' (Value.slice am rb.length cm).ownBlock → (v'.ownBlock = (Value.slice am rb.length cm).ownBlock ∨ v'.ownBlock = some w.heap.size) →
      w'.cell? ⟨mb, 0, none⟩ = some (.slice am rb.length cm) ∧ w'.frozen? ⟨mb, 0, none⟩ = false ∧ Mid (w'.setCell ⟨mb, 0, none⟩ v') base sb mb l t ra (rb ++ zs) sa s2 X ∧ Kp w (w'.setCell ⟨mb, 0, none⟩ v') base X := by
  obtain ⟨b2, hD, hF⟩ := mid_m h
  obtain ⟨am, cm, h1, h2, h6, rfl⟩ := hD
  refine ⟨am, cm, by simp [World.cell?, h1], by simp [World.frozen?, h1], h2, fun v' w' zs hown hgrow hat => ?_⟩
  obtain ⟨a', c', hv, HR, HB, HS, hc, hz⟩ := grown_mid (t := 50) (by decide) h2 h1 hown hgrow hat
  subst hv
  have hl : (rb ++ zs).length = rb.length + zs.length := by simp
  have hRS : RS (w'.setCell ⟨mb, 0, none⟩ (.slice a' (rb.length + zs.length) c')) base mb (rb ++ zs) s2 (mb :: (Value.slice a' (rb.length + zs.length) c').ownBlock.toList) := by
    refine ⟨a', c', ?_, ?_, h6, by rw [hl]⟩
    · rw [block_setCell HB.out, hl]; rfl
    · rw [hl, uvals_append]; exact own_off (t := 50) (by decide) HR.out HB.out
  exact ⟨hc 0 _ rfl, hz 0, hF _ _ _ _ hRS (HS.out.trans (Stp.set mb 0 _ (by simp)))⟩
theorem copy_mid (h : Mid w base sb mb l t ra ra sa sa X) (hn : ra.length ≤ 1048576) :
    Calls Try.prog 25 #[.pointer (some ⟨sb, 0, none⟩)] w fun e w1 => ∃ c, e = .returned (.pointer (some ⟨c, 0, none⟩)) ∧ Kp w w1 base X ∧
      Calls Try.prog 26 #[.pointer (some ⟨mb, 0, none⟩)] w1 fun e2 w2 => ∃ d, e2 = .returned (.pointer (some ⟨d, 0, none⟩)) ∧ Kp w1 w2 base X ∧ Mid w2 base sb mb (some ⟨c, 0, none⟩) (some ⟨d, 0, none⟩) ra ra sa sa X ∧ Mid w2 base c mb (some ⟨sb, 0, none⟩) (some ⟨d, 0, none⟩) ra ra sa sa X := by
  have hb := h.lo
  obtain ⟨rc, sc, b1, b2, b3, b4, hI, hr, hX⟩ := h
  refine (copy_any sb base ra sa b1 w hI.s hn).mono fun e w1 ⟨c, b5, he, hD, hB⟩ => ⟨c, he, ⟨hB.mono hb, fun k hk => hB.block k (hX k hk).1⟩, ?_⟩
  have z1 := hB.size
  refine (rcopy_any mb base ra sa b2 w1 (hI.below hB).m hn).mono fun e2 w2 ⟨d, b6, he2, hR, hB2⟩ => ?_
  have z2 := hB2.size
  obtain ⟨i1, i2⟩ := hI.copied hb hD hB hR hB2 ⟨rfl, rfl⟩
  have n5 : ∀ k ∈ X, k ∉ b5 := fun k hk h => by have := (hD.lt k h).1; have := (hX k hk).1; omega
  have n6 : ∀ k ∈ X, k ∉ b6 := fun k hk h => by have := (hR.lt k h).1; have := (hX k hk).1; omega
  exact ⟨d, he2, ⟨hB2.mono (by omega), fun k hk => hB2.block k (by have := (hX k hk).1; omega)⟩, ⟨ra, sa, b1, b2, b5, b6, i1, hn, fun k hk => ⟨by have := (hX k hk).1; omega, (hX k hk).2.1, (hX k hk).2.2.1, n5 k hk, n6 k hk⟩⟩,
    ⟨ra, sa, b5, b2, b1, b6, i2, hn, fun k hk => ⟨by have := (hX k hk).1; omega, n5 k hk, (hX k hk).2.2.1, (hX k hk).2.1, n6 k hk⟩⟩⟩
/-- what was left behind -/
def QD (w : World) (base lb tb : Nat) (rc rd : List Int) (sc sd : Int) : Prop := ∃ b3 b4, Duo w base lb tb rc rd sc sd b3 b4
theorem Mid.left (h : Mid w base sb mb l t ra rb sa s2 X) : l = none ∨ ∃ lb tb rc sc, l = some ⟨lb, 0, none⟩ ∧ t = some ⟨tb, 0, none⟩ ∧ rc.length ≤ 1048576 ∧ QD w base lb tb rc rc sc sc := by
  obtain ⟨rc, sc, b1, b2, b3, b4, hI, hr, hX⟩ := h
  rcases hI.l with ⟨e, _⟩ | ⟨lb, tb, e1, e2, hd, hm⟩
  · exact .inl e
  · exact .inr ⟨lb, tb, rc, sc, e1, e2, hr, b3, b4, hd, hm, hI.a34⟩
theorem QD.lo {lb tb : Nat} {rc rd : List Int} {sc sd : Int} (h : QD w base lb tb rc rd sc sd) : base ≤ w.heap.size := by
  obtain ⟨b3, b4, hd⟩ := h
  obtain ⟨a, n, c, t, ws, h1, h2, h3, h4, h5, h6, rfl⟩ := hd.s
  have := lt_of_block h1; omega
theorem QD.drewN {lb tb : Nat} {rc rd : List Int} {sc sd : Int} (h : QD w base lb tb rc rd sc sd) (q : Nat) : QD (w.drewN q) base lb tb rc rd sc sd := by
  obtain ⟨b3, b4, hd⟩ := h
  exact ⟨b3, b4, hd.s.keep fun _ _ => rfl, hd.m.keep fun _ _ => rfl, hd.ap⟩
theorem QD.drew {lb tb : Nat} {rc rd : List Int} {sc sd : Int} (h : QD w base lb tb rc rd sc sd) : QD w.drew base lb tb rc rd sc sd := by
  obtain ⟨b3, b4, hd⟩ := h
  exact ⟨b3, b4, hd.s.keep fun _ _ => rfl, hd.m.keep fun _ _ => rfl, hd.ap⟩
theorem QD.next_s {lb tb : Nat} {rc rd : List Int} {sc sd : Int} (h : QD w base lb tb rc rd sc sd) (hn : rc.length ≤ 1048576) :
    Calls Try.prog 27 #[.pointer (some ⟨lb, 0, none⟩)] w fun e w' => e = .returned (.int .u64 (popV rc sc)) ∧ QD w' base lb tb (popR rc) rd (popS rc sc) sd ∧ Below base w w' := by
  have hb := h.lo
  obtain ⟨b3, b4, hd⟩ := h
  exact (next_ds lb base rc sc b3 w hd.s hb hn).mono fun e w' ⟨he, bs', h1, h2⟩ => ⟨he, ⟨bs', b4, hd.stepS h1 h2⟩, h2.below (fun k hk => (hd.s.lt k hk).1) hb⟩
theorem QD.next_m {lb tb : Nat} {rc rd : List Int} {sc sd : Int} (h : QD w base lb tb rc rd sc sd) (hn : rd.length ≤ 1048576) :
    Calls Try.prog 28 #[.pointer (some ⟨tb, 0, none⟩)] w fun e w' => e = .returned (.int .u64 (popV rd sd)) ∧ QD w' base lb tb rc (popR rd) sc (popS rd sd) ∧ Below base w w' := by
  have hb := h.lo
  obtain ⟨b3, b4, hd⟩ := h
  exact (next_rs tb base rd sd b4 w hd.m hb hn).mono fun e w' ⟨he, bs', h1, h2⟩ => ⟨he, ⟨b3, bs', hd.stepM h1 h2⟩, h2.below (fun k hk => (hd.m.lt k hk).1) hb⟩
theorem QD.left {lb tb : Nat} {rc rd : List Int} {sc sd : Int} (h : QD w base lb tb rc rd sc sd) (hn : rc.length ≤ 1048576) :
    Calls Try.prog 29 #[.pointer (some ⟨lb, 0, none⟩)] w fun e w' => e = .returned (.int .i64 (rc.length : Nat)) ∧ ∃ q, w' = w.drewN q := by
  obtain ⟨b3, b4, hd⟩ := h
  exact left_ds lb base rc sc b3 w hd.s hn
theorem QD.words {lb tb : Nat} {rc rd : List Int} {sc sd : Int} (h : QD w base lb tb rc rd sc sd) : ∃ a c, w.cell? ⟨tb, 0, none⟩ = some (.slice a rd.length c) := by
  obtain ⟨b3, b4, hd⟩ := h
  obtain ⟨am, cm, h1, h2, h6, rfl⟩ := hd.m
  exact ⟨am, cm, by simp [World.cell?, h1]⟩
theorem popR_le (r : List Int) (N : Nat) (h : r.length ≤ N) : (popR r).length ≤ N := by simp [popR]; omega
/-- at the beginning -/
theorem mid_start (w : World) (st : Int) : Mid ((w.alloc (.cells #[.slice none 0 0, .int .i64 0, .int .u64 st] 68 (0, 0))).alloc (.cells #[.slice none 0 0, .int .u64 st] 50 (0, 0))) w.heap.size w.heap.size (w.heap.size + 1) none none [] [] st st [] := by
  have e1 : ((w.alloc (.cells #[.slice none 0 0, .int .i64 0, .int .u64 st] 68 (0, 0))).alloc (.cells #[.slice none 0 0, .int .u64 st] 50 (0, 0))).heap[w.heap.size]? = some (.cells #[.slice none 0 0, .int .i64 0, .int .u64 st] 68 (0, 0)) := by
    rw [Below.heap_alloc _ _ _ (by simp)]; exact Go.heap_alloc_new w _
  have e2 : ((w.alloc (.cells #[.slice none 0 0, .int .i64 0, .int .u64 st] 68 (0, 0))).alloc (.cells #[.slice none 0 0, .int .u64 st] 50 (0, 0))).heap[w.heap.size + 1]? = some (.cells #[.slice none 0 0, .int .u64 st] 50 (0, 0)) := by
    have := Go.heap_alloc_new (w.alloc (.cells #[.slice none 0 0, .int .i64 0, .int .u64 st] 68 (0, 0))) (.cells #[.slice none 0 0, .int .u64 st] 50 (0, 0))
    simpa using this
  refine ⟨[], st, [w.heap.size], [w.heap.size + 1], [], [], ⟨⟨none, 0, 0, 0, [], e1, World.ownsRow_nil _ _ _ _, by simp, by simp, rfl, Nat.le_refl _, rfl⟩, ⟨none, 0, e2, World.ownsRow_nil _ _ _ _, by omega, rfl⟩, .inl ⟨rfl, rfl, rfl⟩, ?_, ?_, ?_, ?_, ?_, ?_⟩, by simp, fun k hk => by cases hk⟩
  all_goals intro k hk; simp at hk ⊢
  all_goals omega
end Go.Proofs.Ytfolfeaednmcoaa
