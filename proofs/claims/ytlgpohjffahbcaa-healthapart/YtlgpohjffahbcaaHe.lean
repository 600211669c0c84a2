/- The document's state in memory. -/
import Derived.Test.YtlgpohjffahbcaaHd
namespace Go.Proofs.Ytlgpohjffahbcaa
open Go.RowKit Ieee
set_option linter.unusedVariables false
set_option linter.unusedSimpArgs false
def prow (p : Bool × Nat) : List Value := [.bool p.1, .float .f64 p.2]
def pvals (L : List (Bool × Nat)) : List Value := L.flatMap prow
theorem pvals_append (L M : List (Bool × Nat)) : pvals (L ++ M) = pvals L ++ pvals M := by simp [pvals]
theorem pvals_length (L : List (Bool × Nat)) : (pvals L).length = L.length * 2 := by
  induction L with
  | nil => rfl
  | cons a l ih =>
    show (prow a ++ pvals l).length = _
    rw [List.length_append, ih]; simp [prow]; omega
theorem pvals_one (L : List (Bool × Nat)) : ∀ u ∈ pvals L, u.oneCell' = true := by
  intro u hu
  obtain ⟨p, _, hp⟩ := List.mem_flatMap.1 hu
  simp only [prow, List.mem_cons, List.not_mem_nil, or_false] at hp
  rcases hp with rfl | rfl <;> rfl
theorem pvals_get (L : List (Bool × Nat)) (k : Nat) (h : k < L.length) : (pvals L)[k * 2]? = some (.bool (L.getD k (false, 0)).1) ∧ (pvals L)[k * 2 + 1]? = some (.float .f64 (L.getD k (false, 0)).2) := by
  induction L generalizing k with
  | nil => simp at h
  | cons a l ih =>
    cases k with
    | zero => exact ⟨rfl, rfl⟩
    | succ k =>
      have := ih k (by simpa using h)
      have e : pvals (a :: l) = Value.bool a.1 :: Value.float .f64 a.2 :: pvals l := rfl
      rw [e, show (k + 1) * 2 = k * 2 + 1 + 1 by omega]
      simpa using this
/-- the document's state in memory -/
def Rs (w : World) (base c : Nat) (rise fall : Int) (L : List (Bool × Nat)) (bs : List Nat) : Prop :=
  ∃ (a : Option Addr) (cap : Nat), w.heap[c]? = some (.cells #[.int .i64 rise, .int .i64 fall, .slice a L.length cap] 56 (0, 0)) ∧ w.ownsRow base 34 2 (.slice a L.length cap) L.length (pvals L) ∧ base ≤ c ∧ bs = c :: (Value.slice a L.length cap).ownBlock.toList
theorem own2_block {w w' : World} {base : Nat} {e : TypeId} {k : Nat} {v : Value} {n : Nat} {xs : List Value} (h : w.ownsRow base e k v n xs) (hb : ∀ k, v.ownBlock = some k → w'.heap[k]? = w.heap[k]?) : w'.ownsRow base e k v n xs := by
  refine ⟨h.1, ?_⟩
  rcases h.2 with h0 | ⟨g, cap, cur, rfl, h2, h3, h4⟩
  · exact .inl h0
  · exact .inr ⟨g, cap, cur, rfl, h2, (hb g rfl).trans h3, h4⟩
theorem Rs.lt {w : World} {base c : Nat} {rise fall : Int} {L : List (Bool × Nat)} {bs : List Nat} (h : Rs w base c rise fall L bs) : ∀ k ∈ bs, base ≤ k ∧ k < w.heap.size := by
  obtain ⟨a, cap, h1, h2, h6, rfl⟩ := h
  intro k hk
  rcases List.mem_cons.1 hk with rfl | hk
  · exact ⟨h6, lt_of_block h1⟩
  · exact h2.lt k (by simpa using hk)
theorem Rs.keep {w w' : World} {base c : Nat} {rise fall : Int} {L : List (Bool × Nat)} {bs : List Nat} (h : Rs w base c rise fall L bs) (hk : ∀ k ∈ bs, w'.heap[k]? = w.heap[k]?) : Rs w' base c rise fall L bs := by
  obtain ⟨a, cap, h1, h2, h6, rfl⟩ := h
  exact ⟨a, cap, (hk c (by simp)).trans h1, own2_block h2 (fun k e => hk k (by simp [e])), h6, rfl⟩
theorem Rs.cells {w : World} {base c : Nat} {rise fall : Int} {L : List (Bool × Nat)} {bs : List Nat} (h : Rs w base c rise fall L bs) : ∃ (a : Option Addr) (cap : Nat), w.cell? ⟨c, 0, none⟩ = some (.int .i64 rise) ∧ w.cell? ⟨c, 1, none⟩ = some (.int .i64 fall) ∧ w.cell? ⟨c, 2, none⟩ = some (.slice a L.length cap) ∧ (∀ k, k < L.length → ∃ g, a = some ⟨g, 0, none⟩ ∧ w.cell? ⟨g, k * 2, none⟩ = some (.bool (L.getD k (false, 0)).1) ∧ w.cell? ⟨g, k * 2 + 1, none⟩ = some (.float .f64 (L.getD k (false, 0)).2)) := by
  obtain ⟨a, cap, h1, h2, h6, _⟩ := h
  refine ⟨a, cap, by simp [World.cell?, h1], by simp [World.cell?, h1], by simp [World.cell?, h1], fun k hk => ?_⟩
  obtain ⟨p1, p2⟩ := pvals_get L k hk
  rcases h2.2 with ⟨_, h0⟩ | ⟨g, cp, cur, e, _⟩
  · omega
  · injection e with e1 e2 e3
    subst e1
    refine ⟨g, rfl, ?_, ?_⟩
    · have := h2.cells rfl _ _ p1
      rw [Go.WideShapes.add_plain, Nat.zero_add] at this
      exact this
    · have := h2.cells rfl _ _ p2
      rw [Go.WideShapes.add_plain, Nat.zero_add] at this
      exact this
theorem rnew_no (r f : Int) (w : World) (hr : -9223372036854775808 ≤ r ∧ r ≤ 9223372036854775807) (hf : -9223372036854775808 ≤ f ∧ f ≤ 9223372036854775807) (h : ¬ okT r f) :
    Calls Try.prog 10 #[.int .i64 r, .int .i64 f] w fun e w' => e = .returned (.tuple #[.pointer none, .int .i64 2]) ∧ w' = w := by
  unfold okT at h
  by_cases a1 : r < 1
  · go_enter Try.func10, Try.ntmps10
    go_wp2_with fail
    go_ret2
    exact ⟨rfl, rfl⟩
  · by_cases a2 : r > 100
    · go_enter Try.func10, Try.ntmps10
      go_wp2_with fail
      go_ret2
      exact ⟨rfl, rfl⟩
    · by_cases a3 : f < 1
      · go_enter Try.func10, Try.ntmps10
        go_wp2_with fail
        go_ret2
        exact ⟨rfl, rfl⟩
      · have a4 : f > 100 := by omega
        clear h
        go_enter Try.func10, Try.ntmps10
        go_wp2_with fail
        go_ret2
        exact ⟨rfl, rfl⟩
theorem rnew_ok (r f : Int) (w : World) (h : okT r f) :
    Calls Try.prog 10 #[.int .i64 r, .int .i64 f] w fun e w' => e = .returned (.tuple #[.pointer (some ⟨w.heap.size, 0, none⟩), .int .i64 0]) ∧ (∀ base, base ≤ w.heap.size → Rs w' base w.heap.size r f [] [w.heap.size]) ∧ Below w.heap.size w w' := by
  obtain ⟨a1, a2, a3, a4⟩ := h
  go_enter Try.func10, Try.ntmps10
  go_wp2_with fail
  go_ret2
  refine ⟨rfl, fun base hb => ⟨none, 0, ?_, ⟨rfl, .inl ⟨rfl, rfl⟩⟩, hb, rfl⟩, (Below.refl _ _).alloc (Nat.le_refl _) _⟩
  rw [Go.heap_alloc_new]
  rfl
theorem Try.info34 : (Try.prog.info? 34).map (fun i => (i.zero, i.size, i.bytes)) = some (some (.agg #[.bool false, .float .f64 0]), 2, 16) := by kernel_rfl
theorem row2_type {w : World} {base b n k : Nat} {v : Value} {xs : List Value} {cs : Array Value} {t : TypeId} {e : TypeId} (hrow : w.ownsRow base e k v n xs) (hb : w.heap[b]? = some (.cells cs t (0, 0))) (ht : t ≠ e) : v.ownBlock ≠ some b := by
  intro he
  rcases hrow.2 with ⟨rfl, _⟩ | ⟨g, cp, cur, rfl, _, h3, _⟩
  · cases he
  · have : g = b := by simpa [Value.ownBlock] using he
    subst this
    rw [h3] at hb
    injection hb with hb
    injection hb with _ hb
    exact ht hb.symm
theorem rprobe_nil (ok : Bool) (t : Nat) (w : World) : Calls Try.prog 12 #[.pointer none, .bool ok, .float .f64 t] w fun e w' => e = .returned (.int .i64 1) ∧ w' = w := by
  go_enter Try.func12, Try.ntmps12
  go_wp2_with fail
  go_ret
  exact ⟨rfl, rfl⟩
/-- a row grown, beside a block of another type -/
theorem grown2 {w w1 w' : World} {base b n n' : Nat} {v v' : Value} {xs ys : List Value} {cs : Array Value} {t : TypeId} (ht : t ≠ 34) (hB : Below w.heap.size w w1) (hrow : w1.ownsRow base 34 2 v n xs) (hb : w1.heap[b]? = some (.cells cs t (0, 0))) (hbw : b < w.heap.size) (hown : w'.ownsRow base 34 2 v' n' ys) (hg : w1.grownBy w' v.ownBlock) (hat : v'.ownBlock = v.ownBlock ∨ v'.ownBlock = some w1.heap.size) :
    ∃ a' c', v' = .slice a' n' c' ∧ Hid (w'.ownsRow base 34 2 (.slice a' n' c') n' ys) ∧ Hid (w'.heap[b]? = some (.cells cs t (0, 0))) ∧ Hid (Stp w w' (b :: v.ownBlock.toList) (b :: (Value.slice a' n' c').ownBlock.toList)) ∧ (∀ o, w'.frozen? ⟨b, o, none⟩ = false) ∧ (∀ o u, cs[o]? = some u → w'.cell? ⟨b, o, none⟩ = some u) := by
  obtain ⟨a', c', rfl⟩ : ∃ a' c', v' = .slice a' n' c' := by
    rcases hown.2 with ⟨rfl, h0⟩ | ⟨g, cp, cur, rfl, _⟩
    · exact ⟨none, 0, by rw [h0]⟩
    · exact ⟨_, _, rfl⟩
  have hb' : w'.heap[b]? = some (.cells cs t (0, 0)) := (hg.block b (lt_of_block hb) (fun e => row2_type hrow hb ht e.symm)).trans hb
  refine ⟨a', c', rfl, hown, hb', ⟨hg.os.trans hB.os, hg.tape.trans hB.tape, hg.output.trans hB.output, Nat.le_trans hB.size hg.size, fun k hk hn => (hg.block k (Nat.lt_of_lt_of_le hk hB.size) (fun e => hn (by simp [← e]))).trans (hB.block k hk), fun k hk => ?_⟩, fun o => by simp [World.frozen?, hb'], fun o u hu => by simpa [World.cell?, hb'] using hu⟩
  rcases List.mem_cons.1 hk with rfl | hk
  · exact .inl (by simp)
  · have hk' : (Value.slice a' n' c').ownBlock = some k := by simpa using hk
    rcases hat with h | h
    · rw [h] at hk'; exact .inl (by simp [hk'])
    · rw [h] at hk'; injection hk' with hk'; exact .inr (by have := hB.size; omega)
theorem two_new (w : World) (ok : Bool) (t : Nat) : ∀ j u, (pvals [(ok, t)])[j]? = some u → (w.alloc (.cells #[.bool ok, .float .f64 t] 34 (0, 0))).cell? ((⟨w.heap.size, 0, none⟩ : Addr).add j) = some u := by
  intro j u hj
  have hb := Go.heap_alloc_new w (.cells #[.bool ok, .float .f64 t] 34 (0, 0))
  match j, hj with
  | 0, hj =>
    have hj : (pvals [(ok, t)])[0]? = some u := hj
    rw [show (pvals [(ok, t)])[0]? = some (Value.bool ok) from rfl] at hj
    rw [← hj, Go.WideShapes.add_plain]
    unfold World.cell?
    dsimp only
    rw [hb]
    rfl
  | 1, hj =>
    have hj : (pvals [(ok, t)])[1]? = some u := hj
    rw [show (pvals [(ok, t)])[1]? = some (Value.float .f64 t) from rfl] at hj
    rw [← hj, Go.WideShapes.add_plain]
    unfold World.cell?
    dsimp only
    rw [hb]
    rfl
  | j + 2, hj => simp [pvals, prow] at hj
theorem rprobe_any (base c : Nat) (r f : Int) (L : List (Bool × Nat)) (bs : List Nat) (ok : Bool) (t : Nat) (w : World) (h : Rs w base c r f L bs) (hbase : base ≤ w.heap.size) (hn : L.length ≤ 1000000) :
    Calls Try.prog 12 #[.pointer (some ⟨c, 0, none⟩), .bool ok, .float .f64 t] w fun e w' => e = .returned (.int .i64 0) ∧ ∃ bs', Rs w' base c r f (L ++ [(ok, t)]) bs' ∧ Stp w w' bs bs' := by
  obtain ⟨a, cap, h1, h2, h6, rfl⟩ := h
  obtain ⟨i0, hi, hz0, hz1, hz2⟩ := info_parts Try.info34
  have c2 : w.cell? ⟨c, 2, none⟩ = some (.slice a L.length cap) := by simp [World.cell?, h1]
  obtain ⟨w1, hw1⟩ : ∃ w1, w.alloc (.cells #[.bool ok, .float .f64 t] 34 (0, 0)) = w1 := ⟨_, rfl⟩
  have hB : Below w.heap.size w w1 := hw1 ▸ (Below.refl _ _).alloc (Nat.le_refl _) _
  have hbw := lt_of_block h1
  have g1 : w1.heap[c]? = some (.cells #[.int .i64 r, .int .i64 f, .slice a L.length cap] 56 (0, 0)) := (hB.block c hbw).trans h1
  have g2 : w1.ownsRow base 34 2 (.slice a L.length cap) L.length (pvals L) := own2_block h2 (fun k e => hB.block k (h2.lt k e).2)
  have d2 : w1.cell? ⟨c, 2, none⟩ = some (.slice a L.length cap) := by simp [World.cell?, g1]
  have HN := hide2 (hw1 ▸ two_new w ok t)
  have HB := hide2 hB
  have G1 := hide2 g1
  have G2 := hide2 g2
  have HC := hide2 (And.intro hbw (And.intro h6 hbase))
  have hb1 : base ≤ w1.heap.size := Nat.le_trans hbase hB.size
  have HB1 := hide2 hb1
  obtain ⟨n, hnn⟩ : ∃ n, L.length = n := ⟨_, rfl⟩
  have HL := hide2 hnn
  rw [hnn] at c2 d2 hn
  have st := st_float
  clear h1 h2 h6 hB g1 g2 hbw hbase hb1 hnn
  go_enter Try.func12, Try.ntmps12
  go_wp2_with (at_builtin; refine wpList_append_own_at _ rfl (.tmp 13) (.tmp 17) 22 rfl base 34 i0 (.agg #[.bool false, .float .f64 0]) 2 16 Try.underlying22 hi hz0 hz1 hz2 rfl (by decide) (.slice a n cap) n (pvals L) rfl (HL.out ▸ G2.out) ⟨w.heap.size, 0, none⟩ 1 1 (pvals [(ok, t)]) rfl rfl HN.out (pvals_one _) (by unfold maxLen; omega) (by omega) HB1.out ?_; intro v' w' hown hgrow _ hat; obtain ⟨a', c', hv, HR, HBB, HS, hz, hc⟩ := grown2 (t := 56) (by decide) HB.out G2.out G1.out HC.out.1 hown (by rw [HL.out]; exact hgrow) (by rw [HL.out]; exact hat); subst hv; have z2 := hz 2; have e2 := hc 2 _ rfl; clear hown hgrow hat hz hc)
  go_ret
  have hl := HL.out
  refine ⟨rfl, _, ⟨a', c', ?_, ?_, HC.out.2.1, rfl⟩, ?_⟩
  · rw [set_blk HBB.out]
    rw [show (L ++ [(ok, t)]).length = n + 1 by simp [hl]]
    rfl
  · rw [pvals_append, show (L ++ [(ok, t)]).length = n + 1 by simp [hl]]
    refine own2_block HR.out (fun k hk => Below.heap_setCell _ _ _ _ (fun e => ?_))
    exact row2_type HR.out HBB.out (by decide) (hk.trans (by rw [e]))
  · have := HS.out.trans (Stp.set c 2 (.slice a' (n + 1) c') (bs := c :: (Value.slice a' (n + 1) c').ownBlock.toList) (by simp))
    rw [show (L ++ [(ok, t)]).length = n + 1 by simp [hl]]
    exact this
end Go.Proofs.Ytlgpohjffahbcaa
