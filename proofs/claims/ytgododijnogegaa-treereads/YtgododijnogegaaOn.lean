/-
  Lists of trees in memory; the law's trees.
-/
import Derived.Test.YtgododijnogegaaOm
import Derived.Test.YtgododijnogegaaIn2
namespace Go.Proofs.Ytgododijnogegaa
open Go.RowKit
set_option linter.unusedVariables false
set_option linter.unusedSimpArgs false
set_option maxRecDepth 100000
theorem lpM_size {V : Tk → Nat → Nat → Rr} {L : List Tk} {t0 : Tk} (hV : ∀ u q m t q2 m2, m ≤ 4096 → V u q m = .ok t q2 m2 → m2 = m + t.size ∧ m2 ≤ 4096) : ∀ (n : Nat) (acc : List Tr) (q made : Nat) (ts : List Tr) (q2 m2 : Nat), made ≤ 4096 → lpM V L t0 n acc q made = .ok ts q2 m2 → m2 + sizes acc = made + sizes ts ∧ m2 ≤ 4096
  | 0, acc, q, made, ts, q2, m2, hm, h => by rw [lpM] at h; cases h; exact ⟨rfl, hm⟩
  | n + 1, acc, q, made, ts, q2, m2, hm, h => by
    rw [lpM] at h
    split at h
    · cases h; exact ⟨rfl, hm⟩
    · split at h
      · split at h
        · cases h
        · split at h
          · rename_i hx
            obtain ⟨h1, h2⟩ := hV _ _ _ _ _ _ hm hx
            obtain ⟨h3, h4⟩ := lpM_size hV n _ _ _ ts q2 m2 h2 h
            rw [sizes_snoc, size_withKey] at h3
            exact ⟨by omega, h4⟩
          · cases h
      · cases h; exact ⟨rfl, hm⟩
theorem blkM_size {L : List Tk} : ∀ (f q made : Nat) (t : Tr) (q2 m2 : Nat), made ≤ 4096 → blkM L f q made = .ok t q2 m2 → m2 = made + t.size ∧ m2 ≤ 4096
  | 0, q, made, t, q2, m2, hm, h => by
    rw [blkM] at h
    split at h <;> cases h
  | f + 1, q, made, t, q2, m2, hm, h => by
    rw [blkM] at h
    split at h
    · cases h
    · split at h
      · cases h
      · split at h
        · cases h; simp [Tr.size, sizes]; omega
        · split at h
          · rename_i hx
            cases h
            obtain ⟨h1, h2⟩ := lpM_size (fun u q m t q2 m2 hm hv => by
              unfold valM at hv
              split at hv
              · exact blkM_size f q m t q2 m2 hm hv
              · split at hv
                · cases hv
                · cases hv; simp [leafT, Tr.size, sizes]; omega) _ _ _ _ _ _ _ (by omega) hx
            rw [Tr.size]
            simp only [sizes] at h1
            exact ⟨by omega, h2⟩
          · cases h
theorem docM_size {L : List Tk} {t : Tr} (h : docM L = .ok t) : t.size ≤ 4096 := by
  unfold docM at h
  split at h
  · cases h
  · split at h
    · split at h
      · cases h
      · rename_i hx
        split at h
        · cases h
        · cases h
          have := blkM_size _ _ _ _ _ _ (by decide) hx
          omega
    · cases h
/-- a list of trees, each in nodes of the call's own -/
structure Ots (w : World) (base : Nat) (v : Value) (ts : List Tr) (vs : List Value) : Prop where
  row : w.ownsRow base 41 1 v ts.length vs
  each : ∀ (i : Nat) (t : Tr), ts[i]? = some t → ∃ x ns, vs[i]? = some x ∧ Own w base x ns ∧ ns.map Nx.nd = t.flat 0 ∧ ns.length ≤ 4096
theorem Ots.nil (w : World) (base : Nat) : Ots w base (.slice none 0 0) [] [] := ⟨⟨rfl, .inl ⟨rfl, rfl⟩⟩, fun i t h => by simp at h⟩
theorem Ots.below {w w' : World} {base : Nat} {v : Value} {ts : List Tr} {vs : List Value} (h : Ots w base v ts vs) (hb : Below w.heap.size w w') : Ots w' base v ts vs :=
  ⟨own_block h.row fun k hk => hb.block k (h.row.lt k hk).2, fun i t ht => by
    obtain ⟨x, ns, h1, h2, h3, h4⟩ := h.each i t ht
    exact ⟨x, ns, h1, h2.below hb, h3, h4⟩⟩
theorem Own.drewN' {w : World} {base : Nat} {v : Value} {os : List Nx} (h : Own w base v os) (q : Nat) : Own (w.drewN q) base v os := h.below ⟨rfl, rfl, rfl, Nat.le_refl _, fun _ _ => rfl⟩
set_option maxHeartbeats 4000000 in
theorem trees_same (w : World) (b1 b2 : Nat) (a b : Option Addr) (n c1 c2 : Nat) (ts : List Tr) (vs ws : List Value) (hn : ts.length = n) (h1 : Ots w b1 (.slice a n c1) ts vs) (h2 : Ots w b2 (.slice b n c2) ts ws) (hl : n ≤ 17592186043904) :
    Calls Try.prog 8 #[.slice a n c1, .slice b n c2] w fun e w' => e = .returned (.bool true) ∧ ∃ q, w' = w.drewN q := by
  have HN := hideL hn
  have H1 := hideL h1
  have H2 := hideL h2
  clear hn h1 h2
  go_enter Try.func8, Try.ntmps8
  go_wp2_with (fail)
  go_loopw [5] (fun t wr => ∃ (i : Nat), t = .int .i64 i ∧ i ≤ n ∧ ∃ q, wr = w.drewN q) (fun t _ => n - (intOf t).toNat)
  case atStart => exact ⟨0, rfl, by omega, 0, rfl⟩
  case round =>
    obtain ⟨i, rfl, hi, q, rfl⟩ := hrel
    have i0 : (0 : Int) ≤ i := by omega
    by_cases h3 : i < n
    · have h3' : (i : Int) < n := by omega
      rcases hki : ts[i]? with _ | t
      · have := List.getElem?_eq_none_iff.1 hki; have := HN.out; omega
      obtain ⟨x, ns, k1, k2, k3, k4⟩ := H1.out.each i t hki
      obtain ⟨y, ms, m1, m2, m3, m4⟩ := H2.out.each i t hki
      obtain ⟨xa, xc, rfl, _⟩ := own_form k2.row
      obtain ⟨ya, yc, rfl, _⟩ := own_form m2.row
      have hlen : ms.length = ns.length := by
        have e1 := congrArg List.length k3
        have e2 := congrArg List.length m3
        simp at e1 e2; omega
      have r1 := H1.out.row
      have r2 := H2.out.row
      rw [HN.out] at r1 r2
      obtain ⟨g1, rfl⟩ := own_some r1 (by omega)
      obtain ⟨g2, rfl⟩ := own_some r2 (by omega)
      have x1 : w.cell? ⟨g1, i, none⟩ = some (.slice xa ns.length xc) := by rw [r1.cellAt i (by omega)]; exact k1
      have x2 : w.cell? ⟨g2, i, none⟩ = some (.slice ya ms.length yc) := by rw [r2.cellAt i (by omega)]; exact m1
      obtain ⟨N, hN⟩ : ∃ N, ns.length = N := ⟨_, rfl⟩
      rw [hlen] at x2
      rw [hN] at x1 x2
      have HI : Hid (∀ k, Calls Try.prog 19 #[.slice xa N xc, .slice ya N yc] (w.drewN (q + k)) fun e w' => e = .returned (.bool true) ∧ ∃ r, w' = w.drewN (q + r)) := fun k => by
        have o1 : Own (w.drewN (q + k)) b1 (.slice xa N xc) ns := by rw [← hN]; exact k2.drewN' _
        have o2 : Own (w.drewN (q + k)) b2 (.slice ya N yc) ms := by rw [← hN, ← hlen]; exact m2.drewN' _
        exact (nodes_samew _ xa ya N xc yc ns ms hN (hlen.trans hN) (by omega) o1.nsw o2.nsw (k3.trans m3.symm)).mono fun e w' ⟨he, r, hr⟩ => ⟨he, k + r, by rw [hr, drew_two, Nat.add_assoc]⟩
      clear k1 k2 k3 k4 m1 m2 m3 m4 hlen r1 r2 hki hN H1 H2
      go_wp2_with fail
      go_quiet (exact HI.out _)
      go_wp2
      go_roundw
      case rel => exact ⟨i + 1, by go_num, by omega, q + nq, rfl⟩
      case measure => simp [intOf]; omega
    · have h3' : ¬ (i : Int) < n := by omega
      go_wp2
      go_ret
      exact ⟨rfl, q, rfl⟩
end Go.Proofs.Ytgododijnogegaa
