/-
  The document's Get.
-/
import Derived.Test.YtgododijnogegaaNd
namespace Go.Proofs.Ytgododijnogegaa
open Go.RowKit
set_option linter.unusedVariables false
set_option linter.unusedSimpArgs false
set_option maxRecDepth 100000
set_option maxHeartbeats 2000000 in
theorem rget_any (w : World) (a : Option Addr) (n cap : Nat) (l : List Nx) (z : Int) (key : ByteArray) (hn : l.length = n) (hl : n ≤ 140737488351232) (hS : Ns w a l) (hk : key.size ≤ maxLen) :
    Calls Try.prog 13 #[.slice a n cap, .int .i64 z, .string key] w fun e w' => e = .returned (getV (getF l z key)) ∧ w' = w := by
  have HS := hideL hS
  have HN := hideL hn
  clear hS hn
  go_enter Try.func13, Try.ntmps13
  by_cases h0 : 0 ≤ z ∧ z < n
  · obtain ⟨q, rfl⟩ : ∃ q : Nat, z = q := ⟨z.toNat, by omega⟩
    obtain ⟨h0, h1⟩ := h0
    rcases hoi : l[q]? with _ | o
    · have := List.getElem?_eq_none_iff.1 hoi; have := HN.out; omega
    rcases HS.out.row with hx | ⟨g, off, rfl, hc⟩
    · rw [hx] at hoi; simp at hoi
    have c0 := hc q _ hoi 0 _ rfl
    have c5 := hc q _ hoi 5 _ rfl
    rw [Nat.add_zero] at c0
    have HC := hideL hc
    have HI := hideL hoi
    clear hc hoi
    by_cases hk2 : o.kd = 2
    · go_wp2
      have hin : Nin w o := HS.out.each o (List.mem_of_getElem? HI.out)
      have HIN := hideL hin
      have hbig := hin.big
      clear hin
      go_loopw [8] (fun t wr => ∃ (i : Nat), t = .int .i64 i ∧ i ≤ o.n ∧ wr = w ∧ Hid (∀ j c, j < i → o.ks[j]? = some c → hit l key c = false)) (fun t _ => o.n - (intOf t).toNat)
      case atStart => exact ⟨0, rfl, by omega, rfl, fun j c hj _ => by omega⟩
      case round =>
        obtain ⟨i, rfl, hi, rfl, HF⟩ := hrel
        have i0 : (0 : Int) ≤ i := by omega
        by_cases h2 : i < o.n
        · have h2' : (i : Int) < o.n := by omega
          rcases hki : o.ks[i]? with _ | k
          · have := List.getElem?_eq_none_iff.1 hki; have := HIN.out.len; omega
          obtain ⟨x, hx, hcx⟩ := HIN.out.nums.at_ hki
          rw [hx] at c5
          have HK := hideL hki
          clear hki
          by_cases hkr : 0 ≤ k ∧ k < n
          · obtain ⟨p, rfl⟩ : ∃ p : Nat, k = p := ⟨k.toNat, by omega⟩
            obtain ⟨hk0, hk1⟩ := hkr
            rcases hop : l[p]? with _ | o2
            · have := List.getElem?_eq_none_iff.1 hop; have := HN.out; omega
            have d1 := HC.out p _ hop 1 _ rfl
            have HP := hideL hop
            clear hop
            by_cases he : o2.key = key
            · have he' : (o2.key.toList == key.toList) = true := by rw [he]; exact ba_eq _
              go_wp2
              go_ret2
              rw [getF_at HI.out, if_pos hk2, find_at _ i _ HK.out (by rw [hit_at HP.out]; simpa using he) HF.out]
              exact ⟨rfl, rfl⟩
            · have he' : (o2.key.toList == key.toList) = false := ba_ne he
              go_wp2
              go_roundw
              case rel =>
                refine ⟨i + 1, by go_num, by omega, by trivial, fun j c hj hc => ?_⟩
                by_cases hji : j < i
                · exact HF.out j c hji hc
                · obtain rfl : j = i := by omega
                  rw [HK.out] at hc; cases hc
                  rw [hit_at HP.out]; simpa using he
              case measure => simp [intOf]; omega
          · by_cases hkz : k < 0
            · have hkz' : ¬ 0 ≤ k := by omega
              go_wp2
              go_roundw
              case rel =>
                refine ⟨i + 1, by go_num, by omega, by trivial, fun j c hj hc => ?_⟩
                by_cases hji : j < i
                · exact HF.out j c hji hc
                · obtain rfl : j = i := by omega
                  rw [HK.out] at hc; cases hc
                  exact hit_out (by rw [HN.out]; exact hkr)
              case measure => simp [intOf]; omega
            · have hkz1 : 0 ≤ k := by omega
              have hkz2 : ¬ k < n := by omega
              go_wp2
              go_roundw
              case rel =>
                refine ⟨i + 1, by go_num, by omega, by trivial, fun j c hj hc => ?_⟩
                by_cases hji : j < i
                · exact HF.out j c hji hc
                · obtain rfl : j = i := by omega
                  rw [HK.out] at hc; cases hc
                  exact hit_out (by rw [HN.out]; exact hkr)
              case measure => simp [intOf]; omega
        · have h2' : ¬ (i : Int) < o.n := by omega
          go_wp2
          go_ret2
          rw [getF_at HI.out, if_pos hk2, find_no _ (fun j c hc => HF.out j c (by have := (List.getElem?_eq_some_iff.1 hc).1; have := HIN.out.len; omega) hc)]
          exact ⟨rfl, rfl⟩
    · have e1 : (decide ((q : Int) < 0) || decide (n ≤ q) || o.kd != 2) = true := by simp [hk2]
      go_wp2
      go_ret2
      rw [getF_at HI.out, if_neg hk2]
      exact ⟨rfl, rfl⟩
  · have HZ := hideL h0
    by_cases hz : z < 0
    · clear h0
      go_wp2
      go_ret2
      rw [getF_none (by rw [HN.out]; exact HZ.out)]
      exact ⟨rfl, rfl⟩
    · have hz1 : (n : Int) ≤ z := by omega
      clear h0
      go_wp2
      go_ret2
      rw [getF_none (by rw [HN.out]; exact HZ.out)]
      exact ⟨rfl, rfl⟩
end Go.Proofs.Ytgododijnogegaa
