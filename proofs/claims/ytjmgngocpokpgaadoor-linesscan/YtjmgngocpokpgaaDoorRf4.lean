/-
  The document's own reader: keys.
-/
import Derived.Test.YtjmgngocpokpgaaDoorRf3
namespace Go.Proofs.YtjmgngocpokpgaaDoor
open Go.RowKit
set_option linter.unusedVariables false
set_option linter.unusedSimpArgs false
def keyE (i : Nat) (c : UInt8) (d : List UInt8) : Ending := if quoF c.toNat = true ∧ unqF d = none then .returned (.tuple #[.string ⟨#[]⟩, .bool false, .int .i64 (-1), .int .i64 82]) else match keyF d with
  | none => .returned (.tuple #[.string ⟨#[]⟩, .bool false, .int .i64 (-1), .int .i64 0])
  | some (t, m) => .returned (.tuple #[.string ⟨t.toArray⟩, .bool (quoF c.toNat), .int .i64 ((i + m : Nat) : Int), .int .i64 0])
theorem cln_none {l : List UInt8} {k : Nat} (h : l[k]? = none) : cln (l.drop k) = false := by
  rw [List.drop_eq_nil_of_le (List.getElem?_eq_none_iff.1 h)]
  rfl
theorem cln_not {l : List UInt8} {k : Nat} {c : UInt8} (h : l[k]? = some c) (hc : ¬ (c.toNat : Int) = 58) : cln (l.drop k) = false := by
  have hc' : ¬ c = 58 := fun e => hc (by rw [e]; rfl)
  rw [drop_cons h]
  simp [cln, Lib.hasPrefix, List.isPrefixOf, hc', Ne.symm hc']
theorem cln_last {l : List UInt8} {k : Nat} {c : UInt8} (h : l[k]? = some c) (hc : (c.toNat : Int) = 58) (h2 : l[k + 1]? = none) : cln (l.drop k) = true := by
  have hc' : c = 58 := UInt8.toNat_inj.1 (by show c.toNat = 58; omega)
  rw [drop_cons h, List.drop_eq_nil_of_le (List.getElem?_eq_none_iff.1 h2), hc']
  rfl
theorem cln_two {l : List UInt8} {k : Nat} {c e : UInt8} (h : l[k]? = some c) (hc : (c.toNat : Int) = 58) (h2 : l[k + 1]? = some e) : cln (l.drop k) = decide ((e.toNat : Int) = 32) := by
  have hc' : c = 58 := UInt8.toNat_inj.1 (by show c.toNat = 58; omega)
  rw [drop_cons h, drop_cons h2, hc']
  have : (e = 32) ↔ (e.toNat : Int) = 32 := ⟨fun e' => by rw [e']; rfl, fun e' => UInt8.toNat_inj.1 (by show e.toNat = 32; omega)⟩
  rw [Bool.eq_iff_iff]
  simp [cln, Lib.hasPrefix, List.isPrefixOf, ← this]
  exact eq_comm
/-- So many letters at the beginning. -/
theorem namN_all : ∀ (n m : Nat) (d : List UInt8), (∀ j, j < m → ∃ c, d[j]? = some c ∧ namF c.toNat = true) → (∀ c, d[m]? = some c → namF c.toNat = false) → namN n d = min m n
  | 0, m, d, _, _ => by simp [namN]
  | n + 1, 0, d, _, h2 => by
    rcases d with _ | ⟨c, r⟩
    · rfl
    · have := h2 c rfl
      simp [namN, this]
  | n + 1, m + 1, d, h1, h2 => by
    obtain ⟨c, hc, hn⟩ := h1 0 (by omega)
    rcases d with _ | ⟨c', r⟩
    · cases hc
    · cases hc
      rw [namN, if_pos hn, namN_all n m r (fun j hj => by have := h1 (j + 1) (by omega); simpa using this) (fun c hc => h2 c (by simpa using hc))]
      omega
theorem keyF_name {l d : List UInt8} {i k : Nat} {c : UInt8} {r : List UInt8} (hd : l.drop i = c :: r) (hq : quoF c.toNat = false) (hik : i ≤ k) (h1 : ∀ j, i ≤ j → j < k → ∃ c, l[j]? = some c ∧ namF c.toNat = true) (h2 : ∀ c, l[k]? = some c → namF c.toNat = false) :
    keyF (l.drop i) = if k = i ∨ 64 < k - i then none else if cln (l.drop k) = true then some ((l.drop i).take (k - i), k - i + 1) else none := by
  have hN : namN 64 (l.drop i) = min (k - i) 64 := namN_all 64 (k - i) (l.drop i) (fun j hj => by rw [List.getElem?_drop]; exact h1 (i + j) (by omega) (by omega)) (fun c hc => by rw [List.getElem?_drop] at hc; exact h2 c (by rw [← hc]; congr 1; omega))
  unfold keyF
  rw [hd]
  dsimp only
  rw [← hd, hq, if_neg (by simp), hN]
  by_cases h0 : k = i
  · rw [if_neg (by omega), if_pos (.inl h0)]
  · rw [if_pos (by omega)]
    dsimp only
    by_cases h64 : 64 < k - i
    · have e : min (k - i) 64 = 64 := by omega
      obtain ⟨x, hx, hn⟩ := h1 (i + 64) (by omega) (by omega)
      have hcl : cln (List.drop (min (k - i) 64) (List.drop i l)) = false := by
        rw [e, List.drop_drop]
        exact cln_not hx (by intro e; rw [e] at hn; revert hn; decide)
      rw [hcl, if_neg (by simp), if_pos (Or.inr h64)]
    · have e : min (k - i) 64 = k - i := by omega
      have e2 : i + (k - i) = k := by omega
      rw [e, List.drop_drop, e2, if_neg (show ¬ (k = i ∨ 64 < k - i) by omega)]
set_option maxRecDepth 100000 in
set_option maxHeartbeats 8000000 in
theorem key_q (l : List UInt8) (i : Nat) (c : UInt8) (r : List UInt8) (w : World) (hs : l.length ≤ 2 ^ 40) (hd : l.drop i = c :: r) (hq : quoF (c.toNat : Int) = true) :
    Calls Tryd.prog 35 #[.string ⟨l.toArray⟩, .int .i64 i] w fun e w' => e = keyE i c (l.drop i) ∧ Below w.heap.size w w' := by
  have ip : l[i]? = some c := by
    have : (l.drop i)[0]? = some c := by rw [hd]; rfl
    rwa [List.getElem?_drop, Nat.add_zero] at this
  have ej := ix_eq ip
  have hil := ix_lt ip
  have i0 : (0 : Int) ≤ i := by omega
  have hpl : (i : Int) < l.length := by omega
  have lo := u8_lo c
  have hi := u8_hi c
  · have qr := quoted_ref l i c r w hs hd
    have hq' := of_decide_eq_true hq
    have HQ := hide2 hq
    have hqb : (((c.toNat : Int) == 34) || ((c.toNat : Int) == 39)) = true := by rcases hq' with h | h <;> simp [h]
    rcases hu : unqF (l.drop i) with _ | ⟨t, m⟩
    · have HU := hide2 hu
      rw [hu] at qr
      rcases hq' with h1 | h1
      all_goals go_enter Tryd.func35, Tryd.ntmps35
      all_goals go_wp2_with (go_at_call 53; refine qr.mono ?_; rintro e w' ⟨rfl, hb⟩; dsimp only [refE])
      all_goals refine bodyPost_ret (v := .tuple #[.string ⟨#[]⟩, .bool false, .int .i64 (-1), .int .i64 82]) (by simp [results, Tryd.results35, go_sem]) rfl ?_
      all_goals exact ⟨by rw [keyE, if_pos ⟨HQ.out, HU.out⟩], hb⟩
    · have hm := unqF_le hu
      rw [List.length_drop] at hm
      have HNQ : Hid (¬ (quoF c.toNat = true ∧ unqF (l.drop i) = none)) := by show ¬ _; rw [hu]; simp
      obtain ⟨k, hk⟩ : ∃ k, i + m = k := ⟨_, rfl⟩
      have HK : Hid (keyF (l.drop i) = if cln (l.drop k) = true then some (t, m + 1) else none) := by
        show _ = _
        unfold keyF
        rw [hd]
        dsimp only
        rw [← hd, HQ.out, if_pos rfl, hu]
        dsimp only
        rw [List.drop_drop, hk]
      rw [hu] at qr
      dsimp only [refE] at qr
      rw [hk] at qr
      have k0 : (0 : Int) ≤ k := by omega
      have k1 : ¬ (k : Int) < 0 := by omega
      have hkl : k ≤ l.length := by omega
      have HKM := hide2 hk
      clear hk hu hqb hd
      clear hq
      rcases ik : l[k]? with _ | x
      · rw [cln_none ik, if_neg (by simp)] at HK
        have kl := len_none ik
        have kl' : (l.length : Int) ≤ k := kl
        rcases hq' with h1 | h1
        all_goals go_enter Tryd.func35, Tryd.ntmps35
        all_goals go_wp2_with (go_at_call 53; refine qr.mono ?_; rintro e w' ⟨rfl, hb⟩; have HBW := hide2 hb; clear hb)
        all_goals refine bodyPost_ret (v := .tuple #[.string ⟨#[]⟩, .bool false, .int .i64 (-1), .int .i64 0]) (by simp [results, Tryd.results35, go_sem]) rfl ?_
        all_goals exact ⟨by rw [keyE, if_neg HNQ.out, HK.out], HBW.out⟩
      have ex := ix_eq ik
      have kl := ix_lt ik
      have kl' : ¬ (l.length : Int) ≤ k := by omega
      have kl2 : (k : Int) < l.length := by omega
      by_cases hx : (x.toNat : Int) = 58
      · rcases ik1 : l[k + 1]? with _ | y
        · rw [cln_last ik hx ik1, if_pos rfl] at HK
          have kl3 := len_none ik1
          have kl4 : ¬ (k : Int) + 1 < l.length := by omega
          rcases hq' with h1 | h1
          all_goals go_enter Tryd.func35, Tryd.ntmps35
          all_goals go_wp2_with (go_at_call 53; refine qr.mono ?_; rintro e w' ⟨rfl, hb⟩; have HBW := hide2 hb; clear hb)
          all_goals refine bodyPost_ret (v := .tuple #[.string ⟨t.toArray⟩, .bool true, .int .i64 ((k : Int) + 1), .int .i64 0]) (by simp [results, Tryd.results35, go_sem]) rfl ?_
          all_goals exact ⟨by rw [keyE, if_neg HNQ.out, HK.out, HQ.out]; simp [← HKM.out]; omega, HBW.out⟩
        · rw [cln_two ik hx ik1] at HK
          have ey := ix_eq ik1
          have kl3 := ix_lt ik1
          have kl4 : (k : Int) + 1 < l.length := by omega
          have kl5 : ((k : Int) + 1).toNat = k + 1 := by omega
          by_cases hy : (y.toNat : Int) = 32
          · rw [if_pos (by simpa using hy)] at HK
            rcases hq' with h1 | h1
            all_goals go_enter Tryd.func35, Tryd.ntmps35
            all_goals go_wp2_with (go_at_call 53; refine qr.mono ?_; rintro e w' ⟨rfl, hb⟩; have HBW := hide2 hb; clear hb)
            all_goals refine bodyPost_ret (v := .tuple #[.string ⟨t.toArray⟩, .bool true, .int .i64 ((k : Int) + 1), .int .i64 0]) (by simp [results, Tryd.results35, go_sem]) rfl ?_
            all_goals exact ⟨by rw [keyE, if_neg HNQ.out, HK.out, HQ.out]; simp [← HKM.out]; omega, HBW.out⟩
          · rw [if_neg (by simpa using hy)] at HK
            have hyb : ((y.toNat : Int) == 32) = false := by rw [beq_eq_false_iff_ne]; exact hy
            have hyc : ((y.toNat : Int) != 32) = true := by rw [bne_iff_ne]; exact hy
            have hyd : decide ((y.toNat : Int) = 32) = false := decide_eq_false hy
            rcases hq' with h1 | h1
            all_goals go_enter Tryd.func35, Tryd.ntmps35
            all_goals go_wp2_with (go_at_call 53; refine qr.mono ?_; rintro e w' ⟨rfl, hb⟩; have HBW := hide2 hb; clear hb)
            all_goals refine bodyPost_ret (v := .tuple #[.string ⟨#[]⟩, .bool false, .int .i64 (-1), .int .i64 0]) (by simp [results, Tryd.results35, go_sem]) rfl ?_
            all_goals exact ⟨by rw [keyE, if_neg HNQ.out, HK.out], HBW.out⟩
      · rw [cln_not ik hx, if_neg (by simp)] at HK
        have hxb : ((x.toNat : Int) == 58) = false := by rw [beq_eq_false_iff_ne]; exact hx
        rcases hq' with h1 | h1
        all_goals go_enter Tryd.func35, Tryd.ntmps35
        all_goals go_wp2_with (go_at_call 53; refine qr.mono ?_; rintro e w' ⟨rfl, hb⟩; have HBW := hide2 hb; clear hb)
        all_goals refine bodyPost_ret (v := .tuple #[.string ⟨#[]⟩, .bool false, .int .i64 (-1), .int .i64 0]) (by simp [results, Tryd.results35, go_sem]) rfl ?_
        all_goals exact ⟨by rw [keyE, if_neg HNQ.out, HK.out], HBW.out⟩
end Go.Proofs.YtjmgngocpokpgaaDoor
