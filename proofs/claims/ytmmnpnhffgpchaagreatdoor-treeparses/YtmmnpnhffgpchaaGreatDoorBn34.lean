import Derived.Test.YtmmnpnhffgpchaaGreatDoorBn21
import Derived.Deep.QuietTactic
import Derived.Test.YtmmnpnhffgpchaaGreatDoorBn24
/-
  ints: whether two lists of numbers say the same.
-/
namespace Go.Proofs.YtmmnpnhffgpchaaGreatDoor
open Go.RowKit
set_option linter.unusedVariables false
set_option linter.unusedSimpArgs false
set_option maxRecDepth 100000
set_option maxHeartbeats 2000000 in
/-- two lists of the same numbers: true -/
theorem ints_same (w : World) (a b : Option Addr) (n c1 c2 : Nat) (cs : List Int) (hn : cs.length = n) (hl : n ≤ 17592186043904) (h1 : Nums w a cs) (h2 : Nums w b cs) :
    Calls Tryz.prog 24 #[.slice a n c1, .slice b n c2] w fun e w' => e = .returned (.bool true) ∧ ∃ q, w' = w.drewN q := by
  have HN := hideL hn
  have H1 := hideL h1
  have H2 := hideL h2
  clear hn h1 h2
  go_enter Tryz.func24, Tryz.ntmps24
  go_wp2
  go_loopw [5] (fun t wr => ∃ (i : Nat), t = .int .i64 i ∧ i ≤ n ∧ ∃ q, wr = w.drewN q) (fun t _ => n - (intOf t).toNat)
  case atStart => exact ⟨0, rfl, by omega, 0, rfl⟩
  case round =>
    obtain ⟨i, rfl, hi, q, rfl⟩ := hrel
    have i0 : (0 : Int) ≤ i := by omega
    by_cases h3 : i < n
    · have h3' : (i : Int) < n := by omega
      rcases hki : cs[i]? with _ | k
      · have := List.getElem?_eq_none_iff.1 hki; have := HN.out; omega
      obtain ⟨x, hx, hcx⟩ := H1.out.at_ hki
      obtain ⟨y, hy, hcy⟩ := H2.out.at_ hki
      subst hx hy
      clear hki
      go_wp2_with fail
      go_quiet (fail)
      go_wp2
      go_roundw
      case rel => exact ⟨i + 1, by go_num, by omega, q + nq, rfl⟩
      case measure => simp [intOf]; omega
    · have h3' : ¬ (i : Int) < n := by omega
      go_wp2
      go_ret
      exact ⟨rfl, q, rfl⟩
theorem Nums.drewN {w : World} {a : Option Addr} {cs : List Int} (h : Nums w a cs) (q : Nat) : Nums (w.drewN q) a cs := h
/-- two nodes that say the same -/
structure Nsame (o p : Nx) : Prop where
  kd : o.kd = p.kd
  key : o.key = p.key
  tx : o.tx = p.tx
  quo : o.quo = p.quo
  ln : o.ln = p.ln
  ks : o.ks = p.ks
set_option maxHeartbeats 4000000 in
theorem nodes_same (w : World) (a b : Option Addr) (n c1 c2 : Nat) (l m : List Nx) (hn : l.length = n) (hm : m.length = n) (hl : n ≤ 140737488351232) (h1 : Ns w a l) (h2 : Ns w b m) (hs : ∀ (i : Nat) o p, l[i]? = some o → m[i]? = some p → Nsame o p) :
    Calls Tryz.prog 14 #[.slice a n c1, .slice b n c2] w fun e w' => e = .returned (.bool true) ∧ ∃ q, w' = w.drewN q := by
  have HN := hideL hn
  have HM := hideL hm
  have H1 := hideL h1
  have H2 := hideL h2
  have HS := hideL hs
  clear hn hm h1 h2 hs
  go_enter Tryz.func14, Tryz.ntmps14
  go_wp2
  go_loopw [5] (fun t wr => ∃ (i : Nat), t = .int .i64 i ∧ i ≤ n ∧ ∃ q, wr = w.drewN q) (fun t _ => n - (intOf t).toNat)
  case atStart => exact ⟨0, rfl, by omega, 0, rfl⟩
  case round =>
    obtain ⟨i, rfl, hi, q, rfl⟩ := hrel
    have i0 : (0 : Int) ≤ i := by omega
    by_cases h3 : i < n
    · have h3' : (i : Int) < n := by omega
      rcases hki : l[i]? with _ | o
      · have := List.getElem?_eq_none_iff.1 hki; have := HN.out; omega
      rcases hkj : m[i]? with _ | p
      · have := List.getElem?_eq_none_iff.1 hkj; have := HM.out; omega
      rcases H1.out.row with hx | ⟨g, off, rfl, hc⟩
      · rw [hx] at hki; simp at hki
      rcases H2.out.row with hx | ⟨g2, off2, rfl, hc2⟩
      · rw [hx] at hkj; simp at hkj
      have sm := HS.out i o p hki hkj
      have no := H1.out.each o (List.mem_of_getElem? hki)
      have np := H2.out.each p (List.mem_of_getElem? hkj)
      obtain ⟨kd, key, tx, quo, ln, oa, on_, ocap, ks⟩ := o
      obtain ⟨kd', key', tx', quo', ln', pa, pn, pcap, ks'⟩ := p
      obtain ⟨rfl, rfl, rfl, rfl, rfl, rfl⟩ := sm
      have hln : on_ = pn := no.len.symm.trans np.len
      subst hln
      have c0 := hc i _ hki 0 _ rfl
      have c1 := hc i _ hki 1 _ rfl
      have c2 := hc i _ hki 2 _ rfl
      have c3 := hc i _ hki 3 _ rfl
      have c4 := hc i _ hki 4 _ rfl
      have c5 := hc i _ hki 5 _ rfl
      have d0 := hc2 i _ hkj 0 _ rfl
      have d1 := hc2 i _ hkj 1 _ rfl
      have d2 := hc2 i _ hkj 2 _ rfl
      have d3 := hc2 i _ hkj 3 _ rfl
      have d4 := hc2 i _ hkj 4 _ rfl
      have d5 := hc2 i _ hkj 5 _ rfl
      dsimp only at c0 c1 c2 c3 c4 c5 d0 d1 d2 d3 d4 d5
      rw [Nat.add_zero] at c0 d0
      have HI : Hid (∀ k, Calls Tryz.prog 24 #[.slice oa on_ ocap, .slice pa on_ pcap] (w.drewN (q + k)) fun e w' => e = .returned (.bool true) ∧ ∃ r, w' = w.drewN (q + r)) := fun k => (ints_same _ oa pa on_ ocap pcap ks no.len no.big (no.nums.drewN _) (np.nums.drewN _)).mono fun e w' ⟨he, r, hr⟩ => ⟨he, k + r, by rw [hr, drew_two, Nat.add_assoc]⟩
      clear hc hc2 hki hkj no np H1 H2 HS
      cases quo
      all_goals
        go_wp2_with fail
        go_quiet (exact HI.out _)
        go_wp2
        go_roundw
        case rel => exact ⟨i + 1, by go_num, by omega, q + nq, rfl⟩
        case measure => simp [intOf]; omega
    · have h3' : ¬ (i : Int) < n := by omega
      go_wp2
      go_ret
      exact ⟨rfl, q, rfl⟩
end Go.Proofs.YtmmnpnhffgpchaaGreatDoor

/-
  Two lists of nodes that say the same: nodes answers true.
-/
namespace Go.Proofs.YtmmnpnhffgpchaaGreatDoor
open Go.RowKit
set_option linter.unusedVariables false
set_option linter.unusedSimpArgs false
set_option maxRecDepth 100000
theorem nd_same {o p : Nx} (h : o.nd = p.nd) : Nsame o p := by
  unfold Nx.nd at h
  injection h with h1 h2 h3 h4 h5 h6
  exact ⟨h1, h2, h3, h4, h5, h6⟩
set_option maxHeartbeats 4000000 in
theorem nodes_samew (w : World) (a b : Option Addr) (n c1 c2 : Nat) (l m : List Nx) (hn : l.length = n) (hm : m.length = n) (hl : n ≤ 140737488351232) (h1 : Nsw w a l) (h2 : Nsw w b m) (hs : l.map Nx.nd = m.map Nx.nd) :
    Calls Tryz.prog 14 #[.slice a n c1, .slice b n c2] w fun e w' => e = .returned (.bool true) ∧ ∃ q, w' = w.drewN q := by
  have HN := hideL hn
  have HM := hideL hm
  have H1 := hideL h1
  have H2 := hideL h2
  have HS := hideL hs
  clear hn hm h1 h2 hs
  go_enter Tryz.func14, Tryz.ntmps14
  go_wp2
  go_loopw [5] (fun t wr => ∃ (i : Nat), t = .int .i64 i ∧ i ≤ n ∧ ∃ q, wr = w.drewN q) (fun t _ => n - (intOf t).toNat)
  case atStart => exact ⟨0, rfl, by omega, 0, rfl⟩
  case round =>
    obtain ⟨i, rfl, hi, q, rfl⟩ := hrel
    have i0 : (0 : Int) ≤ i := by omega
    by_cases h3 : i < n
    · have h3' : (i : Int) < n := by omega
      rcases hki : l[i]? with _ | o
      · have := List.getElem?_eq_none_iff.1 hki; have := HN.out; omega
      rcases hkj : m[i]? with _ | p
      · have := List.getElem?_eq_none_iff.1 hkj; have := HM.out; omega
      rcases H1.out.row with hx | ⟨g, off, rfl, hc⟩
      · rw [hx] at hki; simp at hki
      rcases H2.out.row with hx | ⟨g2, off2, rfl, hc2⟩
      · rw [hx] at hkj; simp at hkj
      have sm : Nsame o p := nd_same (by have := congrArg (fun x => x[i]?) HS.out; simpa [hki, hkj] using this)
      have no := H1.out.each o (List.mem_of_getElem? hki)
      have np := H2.out.each p (List.mem_of_getElem? hkj)
      obtain ⟨kd, key, tx, quo, ln, oa, on_, ocap, ks⟩ := o
      obtain ⟨kd', key', tx', quo', ln', pa, pn, pcap, ks'⟩ := p
      obtain ⟨rfl, rfl, rfl, rfl, rfl, rfl⟩ := sm
      have hln : on_ = pn := no.1.symm.trans np.1
      subst hln
      have c0 := hc i _ hki 0 _ rfl
      have c1 := hc i _ hki 1 _ rfl
      have c2 := hc i _ hki 2 _ rfl
      have c3 := hc i _ hki 3 _ rfl
      have c4 := hc i _ hki 4 _ rfl
      have c5 := hc i _ hki 5 _ rfl
      have d0 := hc2 i _ hkj 0 _ rfl
      have d1 := hc2 i _ hkj 1 _ rfl
      have d2 := hc2 i _ hkj 2 _ rfl
      have d3 := hc2 i _ hkj 3 _ rfl
      have d4 := hc2 i _ hkj 4 _ rfl
      have d5 := hc2 i _ hkj 5 _ rfl
      dsimp only at c0 c1 c2 c3 c4 c5 d0 d1 d2 d3 d4 d5
      rw [Nat.add_zero] at c0 d0
      have HI : Hid (∀ k, Calls Tryz.prog 24 #[.slice oa on_ ocap, .slice pa on_ pcap] (w.drewN (q + k)) fun e w' => e = .returned (.bool true) ∧ ∃ r, w' = w.drewN (q + r)) := fun k => (ints_same _ oa pa on_ ocap pcap ks no.1 no.2.2 (no.2.1.drewN _) (np.2.1.drewN _)).mono fun e w' ⟨he, r, hr⟩ => ⟨he, k + r, by rw [hr, drew_two, Nat.add_assoc]⟩
      clear hc hc2 hki hkj no np H1 H2 HS
      cases quo
      all_goals
        go_wp2_with fail
        go_quiet (exact HI.out _)
        go_wp2
        go_roundw
        case rel => exact ⟨i + 1, by go_num, by omega, q + nq, rfl⟩
        case measure => simp [intOf]; omega
    · have h3' : ¬ (i : Int) < n := by omega
      go_wp2
      go_ret
      exact ⟨rfl, q, rfl⟩
end Go.Proofs.YtmmnpnhffgpchaaGreatDoor
