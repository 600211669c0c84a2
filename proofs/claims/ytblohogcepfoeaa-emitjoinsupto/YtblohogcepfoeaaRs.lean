/-
  The document's Same.
-/
import Derived.Test.YtblohogcepfoeaaSm
namespace Go.Proofs.Ytblohogcepfoeaa
open Go.RowKit
set_option linter.unusedVariables false
set_option linter.unusedSimpArgs false
set_option maxRecDepth 100000
set_option maxHeartbeats 8000000 in
/-- the document's Same -/
theorem rsame_any (w : World) (a b : Option Addr) (n m c1 c2 : Nat) (l r : List Nx) (hn : l.length = n) (hm : r.length = m) (hl : n ≤ 140737488351232) (h1 : Ns w a l) (h2 : Ns w b r) :
    Calls Try.prog 7 #[.slice a n c1, .slice b m c2] w fun e w' => Tells e (SameP l r) ∧ Below w.heap.size w w' := by
  have HN := hideS hn
  have HM := hideS hm
  have H1 := hideS h1
  have H2 := hideS h2
  clear hn hm h1 h2
  go_enter Try.func7, Try.ntmps7
  by_cases hnm : n = m
  · subst hnm
    go_wp2_with fail
    go_loopw [5] (fun t wr => ∃ (i : Nat), t = .int .i64 i ∧ i ≤ n ∧ (∃ q, wr = w.drewN q) ∧ Hid (∀ (j : Nat) o p, j < i → l[j]? = some o → r[j]? = some p → Alk o p)) (fun t _ => n - (intOf t).toNat)
    case atStart => exact ⟨0, rfl, by omega, ⟨0, rfl⟩, fun j c d hj _ => by omega⟩
    case round =>
      obtain ⟨i, rfl, hi, ⟨q, rfl⟩, HF⟩ := hrel
      have i0 : (0 : Int) ≤ i := by omega
      by_cases h3 : i < n
      · have h3' : (i : Int) < n := by omega
        rcases hki : l[i]? with _ | o
        · have := List.getElem?_eq_none_iff.1 hki; have := HN.out; omega
        rcases hkj : r[i]? with _ | p
        · have := List.getElem?_eq_none_iff.1 hkj; have := HM.out; omega
        rcases H1.out.row with hx | ⟨g, off, rfl, hc⟩
        · rw [hx] at hki; simp at hki
        rcases H2.out.row with hx | ⟨g2, off2, rfl, hc2⟩
        · rw [hx] at hkj; simp at hkj
        have NO := hideS (H1.out.each o (List.mem_of_getElem? hki))
        have NP := hideS (H2.out.each p (List.mem_of_getElem? hkj))
        have c0 := hc i _ hki 0 _ rfl
        have c1 := hc i _ hki 1 _ rfl
        have c2 := hc i _ hki 2 _ rfl
        have c5 := hc i _ hki 5 _ rfl
        have d0 := hc2 i _ hkj 0 _ rfl
        have d1 := hc2 i _ hkj 1 _ rfl
        have d2 := hc2 i _ hkj 2 _ rfl
        have d5 := hc2 i _ hkj 5 _ rfl
        rw [Nat.add_zero] at c0 d0
        have HK := hideS hki
        have HJ := hideS hkj
        clear hki hkj hc hc2
        have hbig := NO.out.big
        have hne : ¬ Alk o p → ¬ SameP l r := fun h hs => h (hs.2 i o p HK.out HJ.out)
        have HNE := hideS hne
        clear hne
        obtain ⟨kd, key, tx, quo, ln, oa, on_, ocap, ks⟩ := o
        obtain ⟨kd', key', tx', quo', ln', pa, pn, pcap, ks'⟩ := p
        dsimp only at c0 c1 c2 c5 d0 d1 d2 d5 hbig
        have HLO : Hid (ks.length = on_) := NO.out.len
        have HLP : Hid (ks'.length = pn) := NP.out.len
        by_cases e0 : kd = kd'
        · subst e0
          by_cases e1 : key = key'
          · subst e1
            by_cases e2 : tx = tx'
            · subst e2
              by_cases e3 : on_ = pn
              · subst e3
                go_wp2_with fail
                go_quiet (fail)
                go_wp2_with fail
                go_loopw [6] (fun t wr => ∃ (k : Nat), t = .int .i64 k ∧ k ≤ on_ ∧ (∃ q, wr = w.drewN q) ∧ Hid (∀ (j : Nat) c d, j < k → ks[j]? = some c → ks'[j]? = some d → c = d)) (fun t _ => on_ - (intOf t).toNat)
                case atStart => exact ⟨0, rfl, by omega, ⟨_, drew_two _ _ _⟩, fun j c d hj _ => by omega⟩
                case round =>
                  obtain ⟨k, rfl, hk, ⟨q2, rfl⟩, HG⟩ := hrel
                  have k0 : (0 : Int) ≤ k := by omega
                  by_cases h5 : k < on_
                  · have h5' : (k : Int) < on_ := by omega
                    rcases hki : ks[k]? with _ | z
                    · have := List.getElem?_eq_none_iff.1 hki; have := HLO.out; omega
                    rcases hkj : ks'[k]? with _ | z2
                    · have := List.getElem?_eq_none_iff.1 hkj; have := HLP.out; omega
                    obtain ⟨x, hx, hcx⟩ := NO.out.nums.at_ hki
                    obtain ⟨y, hy, hcy⟩ := NP.out.nums.at_ hkj
                    dsimp only at hx hy
                    subst hx hy
                    have HKi := hideS hki
                    have HKj := hideS hkj
                    clear hki hkj
                    by_cases he : z = z2
                    · subst he
                      go_wp2_with fail
                      go_quiet (fail)
                      go_wp2
                      go_roundw
                      case rel =>
                        refine ⟨k + 1, by go_num, by omega, ⟨q2 + nq, rfl⟩, fun j c d hj hc hd => ?_⟩
                        by_cases hji : j < k
                        · exact HG.out j c d hji hc hd
                        · obtain rfl : j = k := by omega
                          rw [HKi.out] at hc; rw [HKj.out] at hd
                          cases hc; cases hd; rfl
                      case measure => simp [intOf]; omega
                    · have he' : decide (z = z2) = false := by simpa using he
                      go_wp2_with fail
                      go_quiet (fail)
                      go_wp2
                      go_ret
                      refine ⟨⟨_, rfl, ?_⟩, below_drewN (below_drewN (Below.refl _ _) _) _⟩
                      have := HNE.out (fun h => by
                        have e1 := h.ks
                        dsimp only at e1
                        subst e1
                        have e2 := HKi.out; rw [HKj.out] at e2; cases e2; exact he rfl)
                      simp [this]
                  · have h5' : ¬ (k : Int) < on_ := by omega
                    have hee : ks = ks' := eq_of_at (by rw [HLO.out, HLP.out]) (fun j c d hj hc hd => HG.out j c d (by have := HLO.out; omega) hc hd)
                    have HEE := hideS hee
                    clear hee
                    go_wp2
                    go_roundw
                    case rel =>
                      refine ⟨i + 1, by go_num, by omega, ⟨q2, rfl⟩, fun j c d hj hc hd => ?_⟩
                      by_cases hji : j < i
                      · exact HF.out j c d hji hc hd
                      · obtain rfl : j = i := by omega
                        rw [HK.out] at hc; rw [HJ.out] at hd
                        cases hc; cases hd
                        exact ⟨rfl, rfl, rfl, HEE.out⟩
                    case measure => simp [intOf]; omega
              · have e3' : decide ((on_ : Int) = pn) = false := by simp; omega
                go_wp2_with fail
                go_quiet (fail)
                go_wp2
                go_ret
                refine ⟨⟨_, rfl, ?_⟩, below_drewN (below_drewN (Below.refl _ _) _) _⟩
                have := HNE.out (fun h => e3 (by rw [← HLO.out, ← HLP.out]; exact congrArg List.length h.ks))
                simp [this]
            · have e2' := ba_ne e2
              go_wp2_with fail
              go_quiet (fail)
              go_wp2
              go_ret
              refine ⟨⟨_, rfl, ?_⟩, below_drewN (below_drewN (Below.refl _ _) _) _⟩
              have := HNE.out (fun h => e2 h.tx)
              simp [this]
          · have e1' := ba_ne e1
            go_wp2_with fail
            go_quiet (fail)
            go_wp2
            go_ret
            refine ⟨⟨_, rfl, ?_⟩, below_drewN (below_drewN (Below.refl _ _) _) _⟩
            have := HNE.out (fun h => e1 h.key)
            simp [this]
        · have e0' : (kd != kd') = true := by simpa using e0
          have E0 := hideS e0
          clear e0
          go_wp2_with fail
          go_quiet (fail)
          go_wp2
          go_ret
          refine ⟨⟨_, rfl, ?_⟩, below_drewN (below_drewN (Below.refl _ _) _) _⟩
          have := HNE.out (fun h => E0.out h.kd)
          simp [this]
      · have h3' : ¬ (i : Int) < n := by omega
        go_wp2
        go_ret
        refine ⟨⟨_, rfl, ?_⟩, below_drewN (Below.refl _ _) _⟩
        have : SameP l r := ⟨by rw [HN.out, HM.out], fun j o p ho hp => HF.out j o p (by have := (List.getElem?_eq_some_iff.1 ho).1; have := HN.out; omega) ho hp⟩
        simp [this]
  · have hnm' : ¬ (n : Int) = m := by omega
    go_wp2
    go_ret
    refine ⟨⟨_, rfl, ?_⟩, Below.refl _ _⟩
    have : ¬ SameP l r := fun h => hnm (by rw [← HN.out, ← HM.out, h.1])
    simp [this]
end Go.Proofs.Ytblohogcepfoeaa
