/- The law's own: the same texts; resources in memory of their own. -/
import Derived.Test.YtidpglbokpgpbaaOpen
import Derived.BigQuiet
namespace Go.Proofs.Ytidpglbokpgpbaa
open Go.RowKit
set_option linter.unusedVariables false
set_option linter.unusedSimpArgs false
set_option maxRecDepth 100000
theorem ddT (w : World) (q n : Nat) : ∃ r, (w.drewN q).drewN n = w.drewN r := ⟨q + n, drew_two _ _ _⟩
set_option maxHeartbeats 4000000 in
theorem texts_any (w : World) (a b : Option Addr) (n m c1 c2 : Nat) (cs ds : List ByteArray) (hn : cs.length = n) (hm : ds.length = m) (hl : n ≤ 1099511627776) (h1 : Cel w a 1 (cs.map strR)) (h2 : Cel w b 1 (ds.map strR)) :
    Calls Try.prog 15 #[.slice a n c1, .slice b m c2] w fun e w' => Tells e (cs = ds) ∧ ∃ q, w' = w.drewN q := by
  have HN := hideL hn
  have HM := hideL hm
  have H1 := hideL h1
  have H2 := hideL h2
  clear hn hm h1 h2
  go_enter Try.func15, Try.ntmps15
  by_cases hnm : n = m
  · subst hnm
    go_wp2_with fail
    go_loopw [5] (fun t wr => ∃ (i : Nat), t = .int .i64 i ∧ i ≤ n ∧ (∃ q, wr = w.drewN q) ∧ Hid (∀ (j : Nat) c d, j < i → cs[j]? = some c → ds[j]? = some d → c = d)) (fun t _ => n - (intOf t).toNat)
    case atStart => exact ⟨0, rfl, by omega, ⟨0, rfl⟩, fun j c d hj _ => by omega⟩
    case round =>
      obtain ⟨i, rfl, hi, ⟨q, rfl⟩, HF⟩ := hrel
      have i0 : (0 : Int) ≤ i := by omega
      by_cases h3 : i < n
      · have h3' : (i : Int) < n := by omega
        rcases hki : cs[i]? with _ | k
        · have := List.getElem?_eq_none_iff.1 hki; have := HN.out; omega
        rcases hkj : ds[i]? with _ | k2
        · have := List.getElem?_eq_none_iff.1 hkj; have := HM.out; omega
        obtain ⟨g, off, rfl, hcx⟩ := H1.out.at_ hki
        obtain ⟨g', off', rfl, hcy⟩ := H2.out.at_ hkj
        have c0 := hcx 0 _ rfl
        have d0 := hcy 0 _ rfl
        rw [Nat.add_zero, Nat.mul_one] at c0 d0
        have HK := hideL hki
        have HJ := hideL hkj
        clear hki hkj hcx hcy
        by_cases he : k = k2
        · subst he
          go_wp2_with fail
          go_quiet (fail)
          go_wp2
          go_roundw
          case rel =>
            refine ⟨i + 1, by go_num, by omega, (by first | exact ⟨_, rfl⟩ | exact ddT _ _ _), fun j c d hj hc hd => ?_⟩
            by_cases hji : j < i
            · exact HF.out j c d hji hc hd
            · obtain rfl : j = i := by omega
              rw [HK.out] at hc; rw [HJ.out] at hd
              cases hc; cases hd; rfl
          case measure => simp [intOf]; omega
        · have he' := ba_ne he
          have HE := hideL he
          clear he
          go_wp2_with fail
          go_quiet (fail)
          go_wp2
          go_ret
          refine ⟨Tells.no ?_, (by first | exact ⟨_, rfl⟩ | exact ddT _ _ _)⟩
          rintro rfl
          have e1 := HK.out; rw [HJ.out] at e1; cases e1; exact HE.out rfl
      · have h3' : ¬ (i : Int) < n := by omega
        go_wp2
        go_ret
        exact ⟨Tells.yes (eq_of_at (by rw [HN.out, HM.out]) (fun j c d hj hc hd => HF.out j c d (by have := HN.out; omega) hc hd)), ⟨_, rfl⟩⟩
  · have hnm' : ¬ (n : Int) = m := by omega
    go_wp2
    go_ret
    exact ⟨Tells.no (fun h => hnm (by rw [← HN.out, ← HM.out, h])), ⟨0, rfl⟩⟩
theorem rowsOf_split {α : Type} (f : α → List Value) (k : Nat) (hk : ∀ x, (f x).length = k) : ∀ (L : List α) (j : Nat) (u : Value), (rowsOf f L)[j]? = some u → ∃ i x r, L[i]? = some x ∧ (f x)[r]? = some u ∧ j = i * k + r
  | [], j, u, h => by simp [rowsOf] at h
  | a :: L, j, u, h => by
    simp only [rowsOf, List.flatMap_cons] at h
    by_cases hj : j < k
    · rw [List.getElem?_append_left (by rw [hk]; exact hj)] at h
      exact ⟨0, a, j, rfl, h, by omega⟩
    · rw [List.getElem?_append_right (by rw [hk]; omega), hk] at h
      obtain ⟨i, x, r, h1, h2, h3⟩ := rowsOf_split f k hk L (j - k) u h
      exact ⟨i + 1, x, r, by simpa using h1, h2, by rw [Nat.succ_mul]; omega⟩
theorem Cel.src {α : Type} {f : α → List Value} {k : Nat} (hk : ∀ x, (f x).length = k) {w : World} {a : Option Addr} {c : Nat} {L : List α} (h : Cel w a k (L.map f)) (hc : a = none → c = 0) :
    (a = none ∧ L.length = 0 ∧ c = 0 ∧ rowsOf f L = []) ∨ ∃ ad, a = some ad ∧ (rowsOf f L).length = L.length * k ∧ ∀ j u, (rowsOf f L)[j]? = some u → w.cell? (ad.add j) = some u := by
  rcases h with h | ⟨g, off, rfl, h2⟩
  · simp at h
    subst h
    rcases a with _ | ad
    · exact .inl ⟨rfl, rfl, hc rfl, rfl⟩
    · exact .inr ⟨ad, rfl, by simp [rowsOf], fun j u hu => by simp [rowsOf] at hu⟩
  · refine .inr ⟨_, rfl, rowsOf_length f k hk L, fun j u hu => ?_⟩
    obtain ⟨i, x, r, h3, h4, rfl⟩ := rowsOf_split f k hk L j u hu
    have := h2 i (f x) (by simp [h3]) r u h4
    rw [Go.WideShapes.add_plain]
    rw [show off + (i * k + r) = off + i * k + r by omega]
    exact this
end Go.Proofs.Ytidpglbokpgpbaa
