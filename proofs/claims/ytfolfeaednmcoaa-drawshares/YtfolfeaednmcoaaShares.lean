/- DrawShares' walk. -/
import Derived.Test.YtfolfeaednmcoaaShMath
namespace Go.Proofs.Ytfolfeaednmcoaa
open Go.RowKit Ieee
set_option linter.unusedVariables false
set_option linter.unusedSimpArgs false
set_option maxRecDepth 100000 in
set_option maxHeartbeats 1000000 in
theorem shares_any (p : Nat) (n : Int) (w : World) (hp : p < 18446744073709551616) (h1 : -9223372036854775808 ≤ n) (h2 : n ≤ 9223372036854775807) : Calls Try.prog 7 #[.int .u64 p, .int .i64 n] w fun x w' => x = .returned (.bool true) ∧ Below w.heap.size w w' := by
  obtain ⟨T, hT⟩ : ∃ T, n.tmod 11 = T := ⟨_, rfl⟩
  have t1 : -11 < T := by rw [← hT]; have := Int.lt_tmod_of_pos n (show (0 : Int) < 11 by decide); omega
  have t2 : T < 11 := by rw [← hT]; exact Int.tmod_lt_of_pos n (by decide)
  go_enter Try.func7, Try.ntmps7
  go_wp2_with fail
  refine (awake_any w).mono ?_
  rintro e w1 ⟨rfl, L1⟩
  have HL1 : Hid (Below w.heap.size w w1) := L1
  clear L1
  go_upto_if 17 with fail
  go_cut [1] (fun v wx => ∃ K : Nat, K ≤ 10 ∧ v = .int .i64 K ∧ w1 = wx)
  case first =>
    by_cases hT0 : T < 0
    · go_wp2_with fail
      go_meet
      case rel => exact ⟨(T + 11).toNat, by omega, by rw [show (((T + 11).toNat : Nat) : Int) = T + 11 by omega], rfl⟩
    · go_wp2_with fail
      go_meet
      case rel => exact ⟨T.toNat, by omega, by rw [show ((T.toNat : Nat) : Int) = T by omega], rfl⟩
  case rest =>
    obtain ⟨K, hK, rfl, rfl⟩ := hcut
    clear hT t1 t2 h1 h2
    have hK2 : (K : Int) ≤ 10 := by omega
    go_wp2_with fail
    go_loopw [5, 6] (fun f t wr => ∃ k : Nat, k ≤ K ∧ t = .int .i64 k ∧ f = .float .f64 (half k) ∧ w1 = wr) (fun f t _ => K - (intOf t).toNat)
    case atStart => exact ⟨0, by omega, rfl, by rw [← one_half], rfl⟩
    case round =>
      obtain ⟨k, hk, rfl, rfl, rfl⟩ := hrel
      by_cases hlt : k < K
      · have k0 : (k : Int) < K := by omega
        have hD := half_div k (by omega)
        obtain ⟨x, hx⟩ : ∃ x, half k = x := ⟨_, rfl⟩
        obtain ⟨y, hy⟩ : ∃ x, half (k + 1) = x := ⟨_, rfl⟩
        rw [hx, hy] at hD
        rw [hx]
        have rD : (binOp .quo 29 (.float .f64 x) (.float .f64 4611686018427387904)).run Try.prog w1 = .ok (.float .f64 y) w1 := run_float_arith w1 .quo 29 .f64 _ _ _ hD
        have HY : Hid (half (k + 1) = y) := hy
        clear hx hy hD
        go_wp2_with fail
        go_roundw
        case rel => exact ⟨k + 1, by omega, by go_num, by rw [HY.out], trivial⟩
        case measure => simp [intOf]; omega
      · obtain rfl : k = K := by omega
        clear hlt hk
        obtain ⟨x, hx⟩ : ∃ x, half k = x := ⟨_, rfl⟩
        have HX : Hid (half k = x) := hx
        rw [hx]
        clear hx
        obtain ⟨N, hN⟩ : ∃ N, 2 ^ k = N := ⟨_, rfl⟩
        have hN1 : N ≤ 1024 := by rw [← hN]; exact Nat.pow_le_pow_right (n := 2) (by decide) hK
        have hN0 : 0 < N := by rw [← hN]; exact Nat.two_pow_pos _
        have hw : wrap64 ((2 : Int) ^ k) = (N : Int) := by
          have e : ((2 : Int) ^ k) = (N : Int) := by rw [← hN, Int.natCast_pow]; rfl
          rw [e, IntWalk.wrap64_in _ (by omega)]
        have HN : Hid (2 ^ k = N) := hN
        clear hN
        obtain ⟨i0, hi, hz0, hz1, hz2⟩ := info_parts Try.info29
        go_wp2_with fail
        go_loopw [7, 8] (fun s t wr => ∃ i : Nat, i ≤ N ∧ t = .int .i64 i ∧ Hid (wr.ownsRow w.heap.size 29 1 s i (fvals (List.replicate i x))) ∧ Hid (Below w.heap.size w wr)) (fun s t _ => N - (intOf t).toNat)
        case atStart => exact ⟨0, Nat.zero_le _, rfl, World.ownsRow_nil _ _ _ _, HL1⟩
        case round =>
          clear HL1
          obtain ⟨i, hi', rfl, HR, HB⟩ := hrel
          by_cases hlt : i < N
          · have i0' : (i : Int) < N := by omega
            have q1 : Hid (0 < i + 1) := Nat.succ_pos i
            have q2 : Hid (i + 1 ≤ maxLen) := by show i + 1 ≤ maxLen; unfold maxLen; omega
            have q3 : Hid ((i + 1) * 8 ≤ 140737488355328) := by show (i + 1) * 8 ≤ 140737488355328; omega
            have q4 : Hid (∀ o, w.heap.size ≤ (wr.alloc o).heap.size) := fun o => by have := HB.out.size; simp; omega
            have q5 : Hid (∀ j u, (fvals [x])[j]? = some u → (wr.alloc (.cells #[.float .f64 x] 29 (0, 0))).cell? ((⟨wr.heap.size, 0, none⟩ : Addr).add j) = some u) := fl_news (fl_new (n := 1) (blk_new wr [x] _ rfl) rfl (by decide))
            go_wp2_with (refine wpList_append_form _ rfl (.tmp 34) (.tmp 36) 32 rfl w.heap.size 29 i0 (.float .f64 0) 1 8 Try.underlying32 hi hz0 hz1 hz2 rfl (by decide) _ i (fvals (List.replicate i x)) rfl (own_belowV HR.out ((Below.refl wr.heap.size wr).alloc (Nat.le_refl _) _) (Nat.le_refl _)) ⟨wr.heap.size, 0, none⟩ 1 1 (fvals [x]) rfl rfl q5.out (fvals_one _) q1.out q2.out q3.out (q4.out _) ?_; intro g c w2 hown2 hgrow2)
            have HR2 : Hid (w2.ownsRow w.heap.size 29 1 (.slice (some ⟨g, 0, none⟩) (i + 1) c) (i + 1) (fvals (List.replicate (i + 1) x))) := by rw [List.replicate_succ', fvals_append]; exact hown2
            have HB2 : Hid (Below w.heap.size w w2) := (HB.out.alloc HB.out.size _).grown hgrow2 (by have := HB.out.size; simp; omega) (fun k h => (HR.out.lt k h).1)
            clear hown2 hgrow2 q1 q2 q3 q4 q5
            go_wp2_with fail
            go_roundw
            case rel => exact ⟨i + 1, by omega, by go_num, HR2, HB2⟩
            case measure => simp [intOf]; omega
          · obtain rfl : i = N := by omega
            obtain ⟨g, c, hv, _⟩ := HR.out.form hN0
            subst hv
            have hfl : Fl wr (some ⟨g, 0, none⟩) i (List.replicate i x) := ⟨by simp, .inr ⟨g, 0, rfl, fun j hj => by rw [Nat.zero_add]; exact own_fl HR.out j hj⟩, by omega⟩
            have hgd : Good (List.replicate i x) := by rw [← HN.out, ← HX.out]; exact share_good hK
            have hpk := pick_ok p (some ⟨g, 0, none⟩) i c (List.replicate i x) wr hp hfl hgd (own_cap HR.out).1 (own_cap HR.out).2
            have HP : Hid (Calls Try.prog 17 #[.int .u64 p, .slice (some ⟨g, 0, none⟩) i c] wr fun e w' => e = .returned (.tuple #[.int .i64 ((p / 2 ^ (64 - k) : Nat) : Int), .int .i64 0]) ∧ Below wr.heap.size wr w') := hpk.mono fun e w' ⟨m, L, hS, hPl, he, hB⟩ => by
              rw [← HN.out, ← HX.out] at hS
              have := share_place hK (by omega) hS hPl
              rw [share_want hK] at this
              rw [← this]
              exact ⟨he, hB⟩
            clear hfl hgd hpk HX HR
            go_wp2_with fail
            refine HP.out.mono ?_
            rintro e w5 ⟨rfl, L5⟩
            have HL5 : Hid (Below w.heap.size w w5) := HB.out.trans (L5.mono HB.out.size)
            clear L5 HP HB
            by_cases hk0 : k = 0
            · subst hk0
              have hz : p / 2 ^ (64 - 0) = 0 := Nat.div_eq_of_lt (by omega)
              rw [hz]
              clear hz
              go_wp2_with fail
              go_ret
              exact ⟨rfl, HL5.out⟩
            · have hk1 : (0 : Int) < k := by omega
              obtain ⟨Q, hQ⟩ : ∃ Q, p / 2 ^ (64 - k) = Q := ⟨_, rfl⟩
              rw [hQ]
              have hQ1 : Hid (Q < 1024) := by
                show Q < 1024
                rw [← hQ]
                refine Nat.lt_of_lt_of_le ((Nat.div_lt_iff_lt_mul (Nat.two_pow_pos (64 - k))).2 (?_ : p < 2 ^ k * 2 ^ (64 - k))) (Nat.pow_le_pow_right (n := 2) (by decide) hK : 2 ^ k ≤ 2 ^ 10)
                rw [← Nat.pow_add, show k + (64 - k) = 64 by omega]; omega
              have hQw : wrap64 ((p : Int) / 2 ^ (64 - k)) = (Q : Int) := by
                have e : ((p : Int) / 2 ^ (64 - k)) = (Q : Int) := by rw [← hQ, Int.natCast_ediv, Int.natCast_pow]; rfl
                have := hQ1.out
                rw [e, IntWalk.wrap64_in _ (by omega)]
              clear hQ hQ1
              go_wp2_with fail
              go_ret
              exact ⟨rfl, HL5.out⟩
theorem shares_walk (a n : Int) (w : World) (h : 0 ≤ a ∧ a ≤ 18446744073709551615) (hn : -9223372036854775808 ≤ n ∧ n ≤ 9223372036854775807) : Calls Try.prog 7 #[.int .u64 a, .int .i64 n] w fun x w' => x = .returned (.bool true) ∧ Below w.heap.size w w' := by
  obtain ⟨m, rfl⟩ := Int.eq_ofNat_of_zero_le h.1
  exact shares_any m n w (by omega) hn.1 hn.2
end Go.Proofs.Ytfolfeaednmcoaa
