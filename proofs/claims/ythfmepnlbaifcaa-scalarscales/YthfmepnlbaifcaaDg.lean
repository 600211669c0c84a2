/-
  The document's least and Decimal.
-/
import Derived.Test.YthfmepnlbaifcaaDf
namespace Go.Proofs.Ythfmepnlbaifcaa
open Go.RowKit Ieee
set_option linter.unusedVariables false
set_option linter.unusedSimpArgs false
/-- what least answers -/
def IsL (x : Nat) (k : Int) (l : Nat) : Prop :=
  (l = 0 ∧ ∀ M, 1 ≤ M → M < 1000000000000000 → V (scF M k) < V x) ∨ (1 ≤ l ∧ l < 1000000000000000 ∧ (∀ M, 1 ≤ M → M < l → V (scF M k) < V x) ∧ V x ≤ V (scF l k))
theorem lt_word {a x : Nat} (ha : a < INF) (hx : x < INF) : (double.order a x == some .lt) = decide (V a < V x) := by
  rw [order_pos ha hx]
  show (compare _ _ == .lt) = _
  rw [cmp_lt, decide_eq_decide]
  omega
theorem rsc_at (m : Nat) (M : Int) (hM : (m : Int) = M) (k : Int) (v : Nat) (hv : scF m k = v) (w : World) (hm : m < 1000000000000000) (k1 : -22 ≤ k) (k2 : k ≤ 22) :
    Calls Try.prog 5 #[.int .u64 M, .int .i64 k] w fun e w' => e = .returned (.tuple #[.float .f64 v, .int .i64 0]) ∧ w' = w := by
  subst hM hv
  have := rScaled_any m k w (by omega)
  rwa [scE, if_pos ⟨hm, k1, k2⟩] at this
set_option maxRecDepth 100000 in
theorem least_any (x : Nat) (k : Int) (w : World) (hx : x < INF) (k1 : -22 ≤ k) (k2 : k ≤ 22) :
    Calls Try.prog 11 #[.float .f64 x, .int .i64 k] w fun e w' => (∃ l : Nat, IsL x k l ∧ e = .returned (.int .u64 l)) ∧ w' = w := by
  have HX := hide2 hx
  clear hx
  go_enter Try.func11, Try.ntmps11
  go_wp2
  go_loop [5, 6] (fun a b => ∃ L H : Nat, a = .int .u64 L ∧ b = .int .u64 H ∧ 1 ≤ L ∧ L ≤ H ∧ H ≤ 1000000000000000 ∧ (∀ M, 1 ≤ M → M < L → V (scF M k) < V x) ∧ (H = 1000000000000000 ∨ V x ≤ V (scF H k))) (fun a b => (intOf b - intOf a).toNat)
  case atStart => exact ⟨1, 1000000000000000, rfl, rfl, by omega, by omega, by omega, (fun M h1 h2 => by omega), .inl rfl⟩
  case round =>
    obtain ⟨L, H, rfl, rfl, hL1, hLH, hH, hlow, hhigh⟩ := hrel
    have HL := hide2 hlow
    have HH := hide2 hhigh
    clear hlow hhigh
    obtain ⟨l, hl⟩ : ∃ l : Int, (L : Int) = l := ⟨_, rfl⟩
    obtain ⟨h, hh⟩ : ∃ h : Int, (H : Int) = h := ⟨_, rfl⟩
    rw [hl, hh]
    have l1 : 1 ≤ l := by omega
    have lh : l ≤ h := by omega
    have h15 : h ≤ 1000000000000000 := by omega
    have HB := hide2 (And.intro hl (And.intro hh (And.intro hL1 (And.intro hLH hH))))
    by_cases hlt : l < h
    · obtain ⟨m, hm, hm1, hm2⟩ : ∃ m : Nat, (m : Int) = l + (h - l) / 2 ∧ L ≤ m ∧ m < H := ⟨L + (H - L) / 2, by omega, by omega, by omega⟩
      have hmb : m < 1000000000000000 := by omega
      have hmp : 1 ≤ m := by omega
      have hsc := rsc_at m _ hm k _ rfl w hmb k1 k2
      obtain ⟨hf, _⟩ := scF_fin hmp hmb k1 k2
      have hord : (FloatKind.f64.format.order (scF m k) x == some .lt) = decide (V (scF m k) < V x) := lt_word hf HX.out
      have HM := hide2 (And.intro hm (And.intro hm1 hm2))
      by_cases hv : V (scF m k) < V x
      · rw [decide_eq_true hv] at hord
        have HV : Hid (∀ M, 1 ≤ M → M < m + 1 → V (scF M k) < V x) := fun M a b => by
          rcases Nat.lt_or_eq_of_le (show M ≤ m by omega) with c | c
          · exact Nat.lt_trans (scF_rise a c hmb k1 k2) hv
          · subst c; exact hv
        obtain ⟨v, hve⟩ : ∃ v, scF m k = v := ⟨_, rfl⟩
        rw [hve] at hsc hord
        clear hve hv hf hm hm1 hm2 hmb hmp hl hh hL1 hLH hH
        go_wp2_with (go_at_call 5; refine hsc.mono ?_; rintro e w' ⟨rfl, rfl⟩)
        go_round
        case rel =>
          obtain ⟨hl, hh, hL1, hLH, hH⟩ := HB.out
          obtain ⟨hm, hm1, hm2⟩ := HM.out
          exact ⟨m + 1, H, by congr 1; omega, by rw [hh], by omega, by omega, hH, HV.out, HH.out⟩
        case measure => simp [intOf]; omega
      · rw [decide_eq_false hv] at hord
        have HV : Hid (V x ≤ V (scF m k)) := by show _ ≤ _; omega
        obtain ⟨v, hve⟩ : ∃ v, scF m k = v := ⟨_, rfl⟩
        rw [hve] at hsc hord
        have HE := hide2 hve
        clear hve hv hf hm hm1 hm2 hmb hmp hl hh hL1 hLH hH
        go_wp2_with (go_at_call 5; refine hsc.mono ?_; rintro e w' ⟨rfl, rfl⟩)
        go_round
        case rel =>
          obtain ⟨hl, hh, hL1, hLH, hH⟩ := HB.out
          obtain ⟨hm, hm1, hm2⟩ := HM.out
          exact ⟨L, m, by rw [hl], by rw [hm], hL1, by omega, by omega, HL.out, .inr HV.out⟩
        case measure => simp [intOf]; omega
    · by_cases he : l = 1000000000000000
      · clear hl hh hL1 hLH hH
        go_wp2
        go_ret
        refine ⟨⟨0, .inl ⟨rfl, ?_⟩, rfl⟩, rfl⟩
        obtain ⟨hl, hh, hL1, hLH, hH⟩ := HB.out
        exact fun M a b => HL.out M a (by omega)
      · clear hl hh hL1 hLH hH
        go_wp2
        go_ret
        obtain ⟨hl, hh, hL1, hLH, hH⟩ := HB.out
        have hLH' : L = H := by omega
        refine ⟨⟨L, .inr ⟨hL1, by omega, HL.out, ?_⟩, by rw [hl]; rfl⟩, rfl⟩
        rcases HH.out with hq | hq
        · omega
        · rw [hLH']; exact hq
end Go.Proofs.Ythfmepnlbaifcaa
