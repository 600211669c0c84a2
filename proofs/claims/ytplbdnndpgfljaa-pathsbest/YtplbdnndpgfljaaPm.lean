/-
  Which pattern covers which, and how two of hosts stand: the document's.
-/
import Derived.Test.YtplbdnndpgfljaaPl
namespace Go.Proofs.Ytplbdnndpgfljaa
open Go.RowKit
set_option linter.unusedVariables false
set_option linter.unusedSimpArgs false
set_option maxRecDepth 100000
theorem cb_step {l u : List UInt8} {k : Nat} (h1 : k < l.length) (h2 : k < u.length) : Lib.compareBytes (l.drop k) (u.drop k) = if (l[k].toNat : Int) < u[k].toNat then -1 else if (u[k].toNat : Int) < l[k].toNat then 1 else Lib.compareBytes (l.drop (k + 1)) (u.drop (k + 1)) := by
  rw [List.drop_eq_getElem_cons h1, List.drop_eq_getElem_cons h2, Lib.compareBytes]
  have e1 : ∀ a b : UInt8, (a < b) = ((a.toNat : Int) < b.toNat) := fun a b => by simp [UInt8.lt_iff_toNat_lt]
  simp only [e1]
theorem below_of {w w' : World} {q : Nat} (h : w' = w.drewN q) : Below w.heap.size w w' := by rw [h]; exact below_drewN (Below.refl _ _) q
set_option maxHeartbeats 4000000 in
theorem rbytes_any (l u : List UInt8) (w : World) (h1 : l.length ≤ 2 ^ 62) (h2 : u.length ≤ 2 ^ 62) : Calls Try.prog 50 #[.string ⟨l.toArray⟩, .string ⟨u.toArray⟩] w fun e w' => e = .returned (.int .i64 (Lib.compareBytes l u)) ∧ Below w.heap.size w w' := by
  obtain ⟨r, hr⟩ : ∃ r, Lib.compareBytes l u = r := ⟨_, rfl⟩
  have HR := hide2 hr
  rw [hr]
  clear hr
  go_enter Try.func50, Try.ntmps50
  go_wp2_with fail
  go_loopw [5] (fun i wr => ∃ k q : Nat, k ≤ l.length ∧ k ≤ u.length ∧ i = .int .i64 k ∧ Hid (wr = w.drewN q) ∧ Hid (Lib.compareBytes (l.drop k) (u.drop k) = r)) (fun i _ => l.length - (intOf i).toNat)
  case atStart => exact ⟨0, 0, Nat.zero_le _, Nat.zero_le _, rfl, hide2 rfl, HR⟩
  case round =>
    obtain ⟨k, q, hk1, hk2, rfl, HW, HC⟩ := hrel
    have k0 : (0 : Int) ≤ k := by omega
    by_cases hl : k < l.length
    · have hl' : (k : Int) < l.length := by omega
      by_cases hu : k < u.length
      · have hu' : (k : Int) < u.length := by omega
        have HS := hide2 (cb_step hl hu)
        by_cases c1 : (ByteArray.mk l.toArray)[k].toNat < (ByteArray.mk u.toArray)[k].toNat
        · have HX : Hid (r = -1) := hide2 (by rw [← HC.out, HS.out, if_pos (by exact Int.ofNat_lt.2 c1)])
          go_wp2_with fail
          go_quiet (fail)
          go_wp2
          go_ret
          exact ⟨ret_int HX.out.symm, below_of (q := q + nq) (by rw [HW.out, drew_two])⟩
        · by_cases c2 : (ByteArray.mk u.toArray)[k].toNat < (ByteArray.mk l.toArray)[k].toNat
          · have HX : Hid (r = 1) := hide2 (by rw [← HC.out, HS.out, if_neg (by exact fun h => c1 (Int.ofNat_lt.1 h)), if_pos (by exact Int.ofNat_lt.2 c2)])
            go_wp2_with fail
            go_quiet (fail)
            have HW2 : Hid (wr.drewN nq = w.drewN (q + nq)) := hide2 (by rw [HW.out, drew_two])
            generalize wr.drewN nq = wx at HW2 ⊢
            generalize q + nq = q2 at HW2
            go_wp2_with fail
            go_quiet (fail)
            go_wp2
            go_ret
            exact ⟨ret_int HX.out.symm, below_of (q := q2 + nq) (by rw [HW2.out, drew_two])⟩
          · have HX : Hid (Lib.compareBytes (l.drop (k + 1)) (u.drop (k + 1)) = r) := hide2 (by rw [← HC.out, HS.out, if_neg (by exact fun h => c1 (Int.ofNat_lt.1 h)), if_neg (by exact fun h => c2 (Int.ofNat_lt.1 h))])
            go_wp2_with fail
            go_quiet (fail)
            have HW2 : Hid (wr.drewN nq = w.drewN (q + nq)) := hide2 (by rw [HW.out, drew_two])
            generalize wr.drewN nq = wx at HW2 ⊢
            generalize q + nq = q2 at HW2
            go_wp2_with fail
            go_quiet (fail)
            go_wp2
            go_roundw
            case rel => exact ⟨k + 1, q2 + _, by omega, by omega, by go_num, hide2 (by rw [HW2.out, drew_two]), HX⟩
            case measure => simp [intOf]; omega
      · have hu' : ¬ (k : Int) < u.length := by omega
        have hlt : (u.length : Int) < l.length := by omega
        have hlt2 : ¬ (l.length : Int) < u.length := by omega
        have HX : Hid (r = 1) := hide2 (by
          rw [← HC.out, List.drop_eq_nil_of_le (by omega : u.length ≤ k), List.drop_eq_getElem_cons hl]; rfl)
        clear hk1 hk2
        go_wp2
        go_ret
        exact ⟨ret_int HX.out.symm, below_of HW.out⟩
    · have hl' : ¬ (k : Int) < l.length := by omega
      by_cases hu : k < u.length
      · have hlt : (l.length : Int) < u.length := by omega
        have HX : Hid (r = -1) := hide2 (by
          rw [← HC.out, List.drop_eq_nil_of_le (by omega : l.length ≤ k), List.drop_eq_getElem_cons hu]; rfl)
        clear hk1 hk2
        go_wp2
        go_ret
        exact ⟨ret_int HX.out.symm, below_of HW.out⟩
      · have hlt : ¬ (l.length : Int) < u.length := by omega
        have hlt2 : ¬ (u.length : Int) < l.length := by omega
        have HX : Hid (r = 0) := hide2 (by
          rw [← HC.out, List.drop_eq_nil_of_le (by omega : l.length ≤ k), List.drop_eq_nil_of_le (by omega : u.length ≤ k)]; rfl)
        clear hk1 hk2
        go_wp2
        go_ret
        exact ⟨ret_int HX.out.symm, below_of HW.out⟩
theorem cI_lt {x y : Int} (h : x < y) : Lib.compareInt x y = -1 := by unfold Lib.compareInt; rw [if_pos h]
theorem cI_gt {x y : Int} (h : y < x) : Lib.compareInt x y = 1 := by unfold Lib.compareInt; rw [if_neg (by omega), if_pos h]
theorem cI_eq (x : Int) : Lib.compareInt x x = 0 := by unfold Lib.compareInt; rw [if_neg (by omega), if_neg (by omega)]
set_option maxHeartbeats 4000000 in
theorem rorder_any (a b : List UInt8) (w : World) (h1 : a.length ≤ 2 ^ 62) (h2 : b.length ≤ 2 ^ 62) : Calls Try.prog 30 #[.string ⟨a.toArray⟩, .string ⟨b.toArray⟩] w fun e w' => e = .returned (.int .i64 (ordM a b)) ∧ Below w.heap.size w w' := by
  have hA := fun w => rsort_any a w h1
  have hB := fun w => rsort_any b w h2
  unfold srtR at hA hB
  have la := srt_low a
  have lb := srt_low b
  have ta := Nat.le_trans (srt_len a) h1
  have tb := Nat.le_trans (srt_len b) h2
  have hE : ordM a b = cmpF (srtF a) (srtF b) := rfl
  generalize srtF a = p at *
  generalize srtF b = q at *
  obtain ⟨n, t⟩ := p
  obtain ⟨m, u⟩ := q
  simp only at hA hB la lb ta tb
  have hC := fun w => rbytes_any t u w ta tb
  have hcf : cmpF (n, t) (m, u) = (if Lib.compareInt n m = 0 then if (if n = 1 then Lib.compareInt u.length t.length else 0) = 0 then Lib.compareBytes t u else (if n = 1 then Lib.compareInt u.length t.length else 0) else Lib.compareInt n m) := rfl
  rw [hcf] at hE
  generalize Lib.compareBytes t u = z at hC hE
  generalize ordM a b = r at hE ⊢
  have HE := hide2 hE
  clear hE hcf
  by_cases c1 : n < m
  · have HX : Hid (r = -1) := hide2 (by rw [HE.out, cI_lt c1]; rfl)
    have c2 : n + 1 < m + 1 := by omega
    have HL := hide2 la
    clear HE la lb
    go_enter Try.func30, Try.ntmps30
    go_wp2_with fail
    refine (hA _).mono ?_; rintro e w1 ⟨rfl, hb⟩; have HB := hide2 hb; clear hb
    go_wp2_with fail
    refine (hB _).mono ?_; rintro e w2 ⟨rfl, hb⟩; replace HB := hide2 (below_two HB.out hb); clear hb
    go_wp2
    go_ret
    exact ⟨ret_int HX.out.symm, HB.out⟩
  · by_cases c2 : m < n
    · have HX : Hid (r = 1) := hide2 (by rw [HE.out, cI_gt c2]; rfl)
      have c3 : ¬ n + 1 < m + 1 := by omega
      have c4 : m + 1 < n + 1 := by omega
      clear HE la lb
      go_enter Try.func30, Try.ntmps30
      go_wp2_with fail
      refine (hA _).mono ?_; rintro e w1 ⟨rfl, hb⟩; have HB := hide2 hb; clear hb
      go_wp2_with fail
      refine (hB _).mono ?_; rintro e w2 ⟨rfl, hb⟩; replace HB := hide2 (below_two HB.out hb); clear hb
      go_wp2
      go_ret
      exact ⟨ret_int HX.out.symm, HB.out⟩
    · have hnm : n = m := by omega
      subst hnm
      by_cases hn : n = 1
      · subst hn
        rcases Nat.lt_trichotomy t.length u.length with hl | hl | hl
        · have HX : Hid (r = 1) := hide2 (by rw [HE.out, cI_eq, if_pos rfl, if_pos rfl, cI_gt (by omega)]; rfl)
          have l1 : ((t.length : Int) == u.length) = false := by simp; omega
          have l2 : ¬ (u.length : Int) < t.length := by omega
          have l3 : ¬ u.length < t.length := by omega
          clear HE la lb c1 c2
          go_enter Try.func30, Try.ntmps30
          go_wp2_with fail
          refine (hA _).mono ?_; rintro e w1 ⟨rfl, hb⟩; have HB := hide2 hb; clear hb
          go_wp2_with fail
          refine (hB _).mono ?_; rintro e w2 ⟨rfl, hb⟩; replace HB := hide2 (below_two HB.out hb); clear hb
          go_wp2
          go_ret
          exact ⟨ret_int HX.out.symm, HB.out⟩
        · have HX : Hid (r = z) := hide2 (by rw [HE.out, cI_eq, if_pos rfl, if_pos rfl, hl, cI_eq]; rfl)
          have l1 : ((t.length : Int) == u.length) = true := by simp; omega
          clear HE la lb c1 c2 hl
          go_enter Try.func30, Try.ntmps30
          go_wp2_with fail
          refine (hA _).mono ?_; rintro e w1 ⟨rfl, hb⟩; have HB := hide2 hb; clear hb
          go_wp2_with fail
          refine (hB _).mono ?_; rintro e w2 ⟨rfl, hb⟩; replace HB := hide2 (below_two HB.out hb); clear hb
          go_wp2_with fail
          refine (hC _).mono ?_; rintro e w3 ⟨rfl, hb⟩; replace HB := hide2 (below_two HB.out hb); clear hb
          go_wp2
          go_ret
          exact ⟨ret_int HX.out.symm, HB.out⟩
        · have HX : Hid (r = -1) := hide2 (by rw [HE.out, cI_eq, if_pos rfl, if_pos rfl, cI_lt (by omega)]; rfl)
          have l1 : ((t.length : Int) == u.length) = false := by simp; omega
          have l2 : (u.length : Int) < t.length := by omega
          clear HE la lb c1 c2
          go_enter Try.func30, Try.ntmps30
          go_wp2_with fail
          refine (hA _).mono ?_; rintro e w1 ⟨rfl, hb⟩; have HB := hide2 hb; clear hb
          go_wp2_with fail
          refine (hB _).mono ?_; rintro e w2 ⟨rfl, hb⟩; replace HB := hide2 (below_two HB.out hb); clear hb
          go_wp2
          go_ret
          exact ⟨ret_int HX.out.symm, HB.out⟩
      · have HX : Hid (r = z) := hide2 (by rw [HE.out, cI_eq, if_pos rfl, if_neg hn]; rfl)
        have l1 : (n + 1 == 2) = false := by simp; omega
        clear HE lb c1 c2 hn la
        go_enter Try.func30, Try.ntmps30
        go_wp2_with fail
        refine (hA _).mono ?_; rintro e w1 ⟨rfl, hb⟩; have HB := hide2 hb; clear hb
        go_wp2_with fail
        refine (hB _).mono ?_; rintro e w2 ⟨rfl, hb⟩; replace HB := hide2 (below_two HB.out hb); clear hb
        go_wp2_with fail
        refine (hC _).mono ?_; rintro e w3 ⟨rfl, hb⟩; replace HB := hide2 (below_two HB.out hb); clear hb
        go_wp2
        go_ret
        exact ⟨ret_int HX.out.symm, HB.out⟩
end Go.Proofs.Ytplbdnndpgfljaa
