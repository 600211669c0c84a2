/-
  The document's own reader: keys without quotes.
-/
import Derived.Test.YtjmgngocpokpgaaDoorRf4
namespace Go.Proofs.YtjmgngocpokpgaaDoor
open Go.RowKit
set_option linter.unusedVariables false
set_option linter.unusedSimpArgs false
theorem extract_mid (l : List UInt8) (i k : Nat) : (ByteArray.mk l.toArray).extract i k = ⟨((l.drop i).take (k - i)).toArray⟩ := by
  apply ByteArray.ext
  simp [ByteArray.data_extract]
set_option maxRecDepth 100000 in
set_option maxHeartbeats 8000000 in
theorem key_n (l : List UInt8) (i : Nat) (c : UInt8) (r : List UInt8) (w : World) (hs : l.length ≤ 2 ^ 40) (hd : l.drop i = c :: r) (hq : quoF (c.toNat : Int) = false) :
    Calls Tryd.prog 35 #[.string ⟨l.toArray⟩, .int .i64 i] w fun e w' => e = keyE i c (l.drop i) ∧ Below w.heap.size w w' := by
  have ip : l[i]? = some c := by
    have : (l.drop i)[0]? = some c := by rw [hd]; rfl
    rwa [List.getElem?_drop, Nat.add_zero] at this
  have ej := ix_eq ip
  have hil := ix_lt ip
  have i0 : (0 : Int) ≤ i := by omega
  have hpl : (i : Int) < l.length := by omega
  have lo := u8_lo c
  have hi := u8_hi c
  have hq' := of_decide_eq_false hq
  have hc1 : ¬ (c.toNat : Int) = 34 := by omega
  have hc2 : ¬ (c.toNat : Int) = 39 := by omega
  have hc1b : ((c.toNat : Int) == 34) = false := by rw [beq_eq_false_iff_ne]; exact hc1
  have hc2b : ((c.toNat : Int) == 39) = false := by rw [beq_eq_false_iff_ne]; exact hc2
  have HNQ : Hid (¬ (quoF c.toNat = true ∧ unqF (l.drop i) = none)) := by show ¬ _; rw [hq]; simp
  have HQ := hide2 hq
  have HD := hide2 hd
  clear hq hq' hd
  go_enter Tryd.func35, Tryd.ntmps35
  go_wp2
  go_loopw [8] (fun t wr => ∃ k : Nat, t = .int .i64 k ∧ i ≤ k ∧ k ≤ l.length ∧ (∀ j, i ≤ j → j < k → ∃ c, l[j]? = some c ∧ namF c.toNat = true) ∧ wr = w) (fun t _ => l.length - (intOf t).toNat)
  case atStart => exact ⟨i, rfl, by omega, by omega, fun j h1 h2 => by omega, rfl⟩
  case round =>
    obtain ⟨k, rfl, hik, hkl, hlet, rfl⟩ := hrel
    have HL := hide2 hlet
    clear hlet
    have k0 : (0 : Int) ≤ k := by omega
    have hxt := extract_mid l i k
    rcases ik : l[k]? with _ | x
    · have kl := len_none ik
      have kl' : ¬ (k : Int) < l.length := by omega
      have kl2 : (l.length : Int) ≤ k := by omega
      have h2 : ∀ c, l[k]? = some c → namF c.toNat = false := fun c hc => by rw [ik] at hc; cases hc
      have HK : Hid (keyF (l.drop i) = if k = i ∨ 64 < k - i then none else if cln (l.drop k) = true then some ((l.drop i).take (k - i), k - i + 1) else none) := keyF_name (d := []) HD.out HQ.out hik HL.out h2
      by_cases hki : k = i
      · omega
      have hki2 : ¬ (k : Int) = i := by omega
      have hkib : ((k : Int) == (i : Int)) = false := by rw [beq_eq_false_iff_ne]; exact hki2
      by_cases h64 : 64 < k - i
      · rw [if_pos (.inr h64)] at HK
        have h64' : (64 : Int) < (k : Int) - i := by omega
        go_wp2
        refine bodyPost_ret (v := .tuple #[.string ⟨#[]⟩, .bool false, .int .i64 (-1), .int .i64 0]) (by simp [results, Tryd.results35, go_sem]) rfl ?_
        exact ⟨by rw [keyE, if_neg HNQ.out, HK.out], Below.refl _ _⟩
      have h64' : ¬ (64 : Int) < (k : Int) - i := by omega
      rw [if_neg (show ¬ (k = i ∨ 64 < k - i) by omega)] at HK
      have hik2 : (i : Int) ≤ k := by omega
      rw [cln_none ik, if_neg (by simp)] at HK
      go_wp2
      refine bodyPost_ret (v := .tuple #[.string ⟨#[]⟩, .bool false, .int .i64 (-1), .int .i64 0]) (by simp [results, Tryd.results35, go_sem]) rfl ?_
      exact ⟨by rw [keyE, if_neg HNQ.out, HK.out], Below.refl _ _⟩
    · have ex := ix_eq ik
      have kl := ix_lt ik
      have kl' : ¬ (l.length : Int) ≤ k := by omega
      have kl2 : (k : Int) < l.length := by omega
      have hlt := letter_ref (x.toNat : Int) (u8_lo x) (by have := u8_hi x; omega)
      cases hnx : namF (x.toNat : Int) with
      | true =>
        rw [hnx] at hlt
        go_wp2_with (go_at_call 54; refine (hlt _).mono ?_; rintro e w' ⟨rfl, hw'⟩; obtain rfl : wr = w' := hw'.symm)
        go_roundw
        case rel => exact ⟨k + 1, by go_num, by omega, by omega, fun j h1 h2 => by rcases Nat.lt_succ_iff_lt_or_eq.1 h2 with h | rfl; exact HL.out j h1 h; exact ⟨x, ik, hnx⟩, trivial⟩
        case measure => simp [intOf]; omega
      | false =>
        rw [hnx] at hlt
        have h2 : ∀ c, l[k]? = some c → namF c.toNat = false := fun c hc => by rw [ik] at hc; cases hc; exact hnx
        have HK : Hid (keyF (l.drop i) = if k = i ∨ 64 < k - i then none else if cln (l.drop k) = true then some ((l.drop i).take (k - i), k - i + 1) else none) := keyF_name (d := []) HD.out HQ.out hik HL.out h2
        by_cases hki : k = i
        · rw [if_pos (.inl hki)] at HK
          subst hki
          obtain rfl : x = c := Option.some.inj (ik.symm.trans ip)
          clear hxt ip ej
          go_wp2_with (go_at_call 54; refine (hlt _).mono ?_; rintro e w' ⟨rfl, hw'⟩; obtain rfl : wr = w' := hw'.symm)
          refine bodyPost_ret (v := .tuple #[.string ⟨#[]⟩, .bool false, .int .i64 (-1), .int .i64 0]) (by simp [results, Tryd.results35, go_sem]) rfl ?_
          exact ⟨by rw [keyE, if_neg HNQ.out, HK.out], Below.refl _ _⟩
        have hki2 : ¬ (k : Int) = i := by omega
        have hkib : ((k : Int) == (i : Int)) = false := by rw [beq_eq_false_iff_ne]; exact hki2
        by_cases h64 : 64 < k - i
        · rw [if_pos (.inr h64)] at HK
          have h64' : (64 : Int) < (k : Int) - i := by omega
          go_wp2_with (go_at_call 54; refine (hlt _).mono ?_; rintro e w' ⟨rfl, hw'⟩; obtain rfl : wr = w' := hw'.symm)
          refine bodyPost_ret (v := .tuple #[.string ⟨#[]⟩, .bool false, .int .i64 (-1), .int .i64 0]) (by simp [results, Tryd.results35, go_sem]) rfl ?_
          exact ⟨by rw [keyE, if_neg HNQ.out, HK.out], Below.refl _ _⟩
        have h64' : ¬ (64 : Int) < (k : Int) - i := by omega
        rw [if_neg (show ¬ (k = i ∨ 64 < k - i) by omega)] at HK
        have hik2 : (i : Int) ≤ k := by omega
        by_cases hx : (x.toNat : Int) = 58
        · rcases ik1 : l[k + 1]? with _ | y
          · rw [cln_last ik hx ik1, if_pos rfl] at HK
            have kl3 := len_none ik1
            have kl4 : ¬ (k : Int) + 1 < l.length := by omega
            rw [hx] at hlt
            go_wp2_with (go_at_call 54; refine (hlt _).mono ?_; rintro e w' ⟨rfl, hw'⟩; obtain rfl : wr = w' := hw'.symm)
            refine bodyPost_ret (v := .tuple #[.string ⟨((l.drop i).take (k - i)).toArray⟩, .bool false, .int .i64 ((k : Int) + 1), .int .i64 0]) (by simp [results, Tryd.results35, go_sem]) rfl ?_
            exact ⟨by rw [keyE, if_neg HNQ.out, HK.out, HQ.out]; simp; omega, Below.refl _ _⟩
          · rw [cln_two ik hx ik1] at HK
            have ey := ix_eq ik1
            have kl3 := ix_lt ik1
            have kl4 : (k : Int) + 1 < l.length := by omega
            have kl5 : ((k : Int) + 1).toNat = k + 1 := by omega
            rw [hx] at hlt
            by_cases hy : (y.toNat : Int) = 32
            · rw [if_pos (by simpa using hy)] at HK
              go_wp2_with (go_at_call 54; refine (hlt _).mono ?_; rintro e w' ⟨rfl, hw'⟩; obtain rfl : wr = w' := hw'.symm)
              refine bodyPost_ret (v := .tuple #[.string ⟨((l.drop i).take (k - i)).toArray⟩, .bool false, .int .i64 ((k : Int) + 1), .int .i64 0]) (by simp [results, Tryd.results35, go_sem]) rfl ?_
              exact ⟨by rw [keyE, if_neg HNQ.out, HK.out, HQ.out]; simp; omega, Below.refl _ _⟩
            · rw [if_neg (by simpa using hy)] at HK
              have hyc : ((y.toNat : Int) != 32) = true := by rw [bne_iff_ne]; exact hy
              go_wp2_with (go_at_call 54; refine (hlt _).mono ?_; rintro e w' ⟨rfl, hw'⟩; obtain rfl : wr = w' := hw'.symm)
              refine bodyPost_ret (v := .tuple #[.string ⟨#[]⟩, .bool false, .int .i64 (-1), .int .i64 0]) (by simp [results, Tryd.results35, go_sem]) rfl ?_
              exact ⟨by rw [keyE, if_neg HNQ.out, HK.out], Below.refl _ _⟩
        · rw [cln_not ik hx, if_neg (by simp)] at HK
          have hxc : ((x.toNat : Int) != 58) = true := by rw [bne_iff_ne]; exact hx
          go_wp2_with (go_at_call 54; refine (hlt _).mono ?_; rintro e w' ⟨rfl, hw'⟩; obtain rfl : wr = w' := hw'.symm)
          refine bodyPost_ret (v := .tuple #[.string ⟨#[]⟩, .bool false, .int .i64 (-1), .int .i64 0]) (by simp [results, Tryd.results35, go_sem]) rfl ?_
          exact ⟨by rw [keyE, if_neg HNQ.out, HK.out], Below.refl _ _⟩
theorem key_ref (l : List UInt8) (i : Nat) (c : UInt8) (r : List UInt8) (w : World) (hs : l.length ≤ 2 ^ 40) (hd : l.drop i = c :: r) :
    Calls Tryd.prog 35 #[.string ⟨l.toArray⟩, .int .i64 i] w fun e w' => e = keyE i c (l.drop i) ∧ Below w.heap.size w w' := by
  cases hq : quoF (c.toNat : Int) with
  | true => exact key_q l i c r w hs hd hq
  | false => exact key_n l i c r w hs hd hq
end Go.Proofs.YtjmgngocpokpgaaDoor
