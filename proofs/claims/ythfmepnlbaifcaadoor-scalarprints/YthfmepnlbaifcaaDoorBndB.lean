import Derived.Test.YthfmepnlbaifcaaDoorBndA
import Derived.Deep.DeepCutAuto
/-
  The document's text of a real.
-/
namespace Go.Proofs.YthfmepnlbaifcaaDoor
open Go.RowKit Ieee
set_option linter.unusedVariables false
set_option linter.unusedSimpArgs false
theorem neg_word {x : Nat} (hx : x < 18446744073709551616) (h : ng x = true) : Op.negFloat .f64 x = rg x := by
  show x ^^^ 2 ^ 63 = rg x
  have h1 : (x ^^^ 2 ^ 63) % 2 ^ 63 = rg x := by
    rw [Nat.xor_mod_two_pow, Nat.mod_self, Nat.xor_zero]
    rfl
  have h2 : (x ^^^ 2 ^ 63) / 2 ^ 63 = 0 := by
    rw [Nat.xor_div_two_pow, Nat.div_self (by decide)]
    have : x / 2 ^ 63 = 1 := by
      unfold ng at h
      rw [beq_iff_eq] at h
      omega
    rw [this, Nat.xor_self]
  omega
def sgL (b : Bool) : List UInt8 := if b = true then [45] else []
theorem sgL_app (b : Bool) (l : List UInt8) : sgL b ++ l = sg b l := by cases b <;> rfl
set_option maxRecDepth 100000 in
theorem real_none (x : Nat) (w : World) (hx : x < 18446744073709551616) (h : 0 < rg x ∧ rg x < INF) (hd : DecA (rg x) (endD none)) :
    Calls Tryd.prog 31 #[.float .f64 x] w fun e w' => e = .returned (.tuple #[.string ⟨#[]⟩, .int .i64 2]) ∧ Below w.heap.size w w' := by
  obtain ⟨c1, -, -, -, -⟩ := fin1 h
  have hbel := below_any x w
  rw [belB_ng hx (by omega)] at hbel
  have hneg : ng x = true → Op.negFloat .f64 x = rg x := neg_word hx
  have hpos : ng x = false → x = rg x := fun e => by have := ng_split hx; rw [e] at this; simpa using this
  have hdec : Calls Tryd.prog 52 #[.float .f64 (rg x)] w fun e w' => e = .returned (.tuple #[.int .u64 0, .int .i64 0, .int .i64 2]) ∧ w' = w := by
    refine (rdec_yes w h.1 h.2).mono ?_
    rintro e w' ⟨he, rfl⟩
    exact ⟨he.one hd, rfl⟩
  have hr := rg_lt (Nat.le_of_lt h.2)
  obtain ⟨-, -, -, d4, -⟩ := fin1 (x := rg x) (by rw [hr.1]; exact h)
  have rS : (binOp .sub 23 (.float .f64 (rg x)) (.float .f64 (rg x))).run Tryd.prog w = .ok (.float .f64 0) w := run_float_arith w .sub 23 .f64 _ _ _ (sub_self _ (by rw [hr.1]; exact h.2))
  have hq2 : (FloatKind.f64.format.order 0 0 != some .eq) = false := by decide +kernel
  clear hd h hx hr
  generalize rg x = y at *
  cases hg : ng x with
  | true =>
    have rN : ∀ W, (Op.unary UnOp.neg (.float .f64 x)).run Tryd.prog W = .ok (.float .f64 y) W := fun W => by rw [neg_run, hneg hg]
    rw [hg] at hbel
    clear hpos hg hneg
    go_enter Tryd.func31, Tryd.ntmps31
    go_wp2_with (first
      | (go_at_call 33; refine hbel.mono ?_; rintro e w' ⟨rfl, rfl⟩)
      | (go_at_call 52; refine hdec.mono ?_; rintro e w' ⟨rfl, rfl⟩))
    go_ret2
    exact ⟨rfl, Below.refl _ _⟩
  | false =>
    have hpos := hpos hg
    subst hpos
    rw [hg] at hbel
    clear hneg hg
    go_enter Tryd.func31, Tryd.ntmps31
    go_wp2_with (first
      | (go_at_call 33; refine hbel.mono ?_; rintro e w' ⟨rfl, rfl⟩)
      | (go_at_call 52; refine hdec.mono ?_; rintro e w' ⟨rfl, rfl⟩))
    go_ret2
    exact ⟨rfl, Below.refl _ _⟩
set_option maxRecDepth 100000 in
theorem real_nan (x : Nat) (w : World) (h : INF < rg x) :
    Calls Tryd.prog 31 #[.float .f64 x] w fun e w' => e = .returned (.tuple #[.string ⟨[46, 110, 97, 110].toArray⟩, .int .i64 0]) ∧ Below w.heap.size w w' := by
  have c1 := nan_self h
  clear h
  go_enter Tryd.func31, Tryd.ntmps31
  go_wp2
  go_ret2
  exact ⟨rfl, Below.refl _ _⟩
set_option maxRecDepth 100000 in
theorem real_inf (w : World) :
    Calls Tryd.prog 31 #[.float .f64 INF] w fun e w' => e = .returned (.tuple #[.string ⟨[46, 105, 110, 102].toArray⟩, .int .i64 0]) ∧ Below w.heap.size w w' := by
  have c1 : (FloatKind.f64.format.order 9218868437227405312 9218868437227405312 != some .eq) = false := by decide +kernel
  have hbel := below_any 9218868437227405312 w
  rw [show belB 9218868437227405312 = false by decide +kernel] at hbel
  obtain ⟨r, hr, hrun⟩ := run_nan 9218868437227405312 9218868437227405312 w (by decide +kernel)
  have hq2 : (FloatKind.f64.format.order r 0 != some .eq) = true := by
    show (double.order r 0 != some .eq) = true
    rw [order_nan r 0 (.inl hr)]; rfl
  clear hr
  go_enter Tryd.func31, Tryd.ntmps31
  go_wp2_with (go_at_call 33; refine hbel.mono ?_; rintro e w' ⟨rfl, rfl⟩)
  go_ret2
  exact ⟨rfl, below_drewN (Below.refl _ _) 1⟩
set_option maxRecDepth 100000 in
theorem real_ninf (w : World) :
    Calls Tryd.prog 31 #[.float .f64 NINF] w fun e w' => e = .returned (.tuple #[.string ⟨[45, 46, 105, 110, 102].toArray⟩, .int .i64 0]) ∧ Below w.heap.size w w' := by
  have c1 : (FloatKind.f64.format.order 18442240474082181120 18442240474082181120 != some .eq) = false := by decide +kernel
  have hbel := below_any 18442240474082181120 w
  rw [show belB 18442240474082181120 = true by decide +kernel] at hbel
  have rN : ∀ W, (Op.unary UnOp.neg (.float .f64 18442240474082181120)).run Tryd.prog W = .ok (.float .f64 9218868437227405312) W := fun W => by rw [neg_run, show Op.negFloat .f64 18442240474082181120 = 9218868437227405312 by decide +kernel]
  obtain ⟨r, hr, hrun⟩ := run_nan 9218868437227405312 9218868437227405312 w (by decide +kernel)
  have hq2 : (FloatKind.f64.format.order r 0 != some .eq) = true := by
    show (double.order r 0 != some .eq) = true
    rw [order_nan r 0 (.inl hr)]; rfl
  clear hr
  go_enter Tryd.func31, Tryd.ntmps31
  go_wp2_with (go_at_call 33; refine hbel.mono ?_; rintro e w' ⟨rfl, rfl⟩)
  go_ret2
  exact ⟨rfl, below_drewN (Below.refl _ _) 1⟩
set_option maxRecDepth 100000 in
theorem real_z (w : World) :
    Calls Tryd.prog 31 #[.float .f64 0] w fun e w' => e = .returned (.tuple #[.string ⟨[48, 46, 48].toArray⟩, .int .i64 0]) ∧ Below w.heap.size w w' := by
  have c1 : (FloatKind.f64.format.order 0 0 != some .eq) = false := by decide +kernel
  have hbel := below_any 0 w
  rw [show belB 0 = false by decide +kernel] at hbel
  have rS : (binOp .sub 23 (.float .f64 0) (.float .f64 0)).run Tryd.prog w = .ok (.float .f64 0) w := run_float_arith w .sub 23 .f64 _ _ _ (sub_self 0 (by decide))
  have hq2 : (FloatKind.f64.format.order 0 0 != some .eq) = false := by decide +kernel
  have hq3 : (FloatKind.f64.format.order 0 0 == some .eq) = true := by decide +kernel
  go_enter Tryd.func31, Tryd.ntmps31
  go_wp2_with (go_at_call 33; refine hbel.mono ?_; rintro e w' ⟨rfl, rfl⟩)
  go_ret2
  exact ⟨rfl, Below.refl _ _⟩
set_option maxRecDepth 100000 in
theorem real_mz (w : World) :
    Calls Tryd.prog 31 #[.float .f64 MZ] w fun e w' => e = .returned (.tuple #[.string ⟨[45, 48, 46, 48].toArray⟩, .int .i64 0]) ∧ Below w.heap.size w w' := by
  have c1 : (FloatKind.f64.format.order 9223372036854775808 9223372036854775808 != some .eq) = false := by decide +kernel
  have hbel := below_any 9223372036854775808 w
  rw [show belB 9223372036854775808 = true by decide +kernel] at hbel
  have rN : ∀ W, (Op.unary UnOp.neg (.float .f64 9223372036854775808)).run Tryd.prog W = .ok (.float .f64 0) W := fun W => by rw [neg_run, show Op.negFloat .f64 9223372036854775808 = 0 by decide +kernel]
  have rS : (binOp .sub 23 (.float .f64 0) (.float .f64 0)).run Tryd.prog w = .ok (.float .f64 0) w := run_float_arith w .sub 23 .f64 _ _ _ (sub_self 0 (by decide))
  have hq2 : (FloatKind.f64.format.order 0 0 != some .eq) = false := by decide +kernel
  have hq3 : (FloatKind.f64.format.order 0 0 == some .eq) = true := by decide +kernel
  go_enter Tryd.func31, Tryd.ntmps31
  go_wp2_with (go_at_call 33; refine hbel.mono ?_; rintro e w' ⟨rfl, rfl⟩)
  go_ret2
  exact ⟨rfl, Below.refl _ _⟩
end Go.Proofs.YthfmepnlbaifcaaDoor

/-
  The document's text of a real that has an M and a k.
-/
namespace Go.Proofs.YthfmepnlbaifcaaDoor
open Go.RowKit Ieee
set_option linter.unusedVariables false
set_option linter.unusedSimpArgs false
theorem str_add (w : World) (x y z : List UInt8) (hz : x ++ y = z) (h : z.length ≤ 1000) : (Op.stringOp .add (ByteArray.mk x.toArray) ⟨y.toArray⟩).run Tryd.prog w = .ok (.string ⟨z.toArray⟩) w := by
  rw [← hz, List.length_append] at h
  have e := run_string_add_sum (P := Tryd.prog) (w := w) (a := ByteArray.mk x.toArray) (b := ⟨y.toArray⟩) (by show x.length + y.length ≤ _; omega)
  rw [e, sadd, hz]
theorem below_step {w w2 w3 : World} {n : Nat} (h : Below w.heap.size w w2) (h3 : Below (w2.drewN n).heap.size (w2.drewN n) w3) : Below w.heap.size w w3 := (below_drewN h n).trans (h3.mono h.size)
def strLen : Value → Nat
  | .string b => b.size
  | _ => 0
set_option maxRecDepth 100000 in
set_option maxHeartbeats 4000000 in
theorem real_some (x M : Nat) (k : Int) (w : World) (hx : x < 18446744073709551616) (h : 0 < rg x ∧ rg x < INF) (hd : DecA (rg x) (endD (some (M, k)))) :
    Calls Tryd.prog 31 #[.float .f64 x] w fun e w' => e = .returned (.tuple #[.string ⟨(sg (ng x) (decT M k)).toArray⟩, .int .i64 0]) ∧ Below w.heap.size w w' := by
  obtain ⟨k1, k2, hh⟩ := decA_some hd
  obtain ⟨c1, -, -, -, -⟩ := fin1 h
  have hbel := below_any x w
  rw [belB_ng hx (by omega)] at hbel
  have hneg : ng x = true → Op.negFloat .f64 x = rg x := neg_word hx
  have hpos : ng x = false → x = rg x := fun e => by have := ng_split hx; rw [e] at this; simpa using this
  have hdec : Calls Tryd.prog 52 #[.float .f64 (rg x)] w fun e w' => e = .returned (.tuple #[.int .u64 M, .int .i64 k, .int .i64 0]) ∧ w' = w := by
    refine (rdec_yes w h.1 h.2).mono ?_
    rintro e w' ⟨he, rfl⟩
    exact ⟨he.one hd, rfl⟩
  have hr := rg_lt (Nat.le_of_lt h.2)
  obtain ⟨-, -, -, d4, -⟩ := fin1 (x := rg x) (by rw [hr.1]; exact h)
  have rS : (binOp .sub 23 (.float .f64 (rg x)) (.float .f64 (rg x))).run Tryd.prog w = .ok (.float .f64 0) w := run_float_arith w .sub 23 .f64 _ _ _ (sub_self _ (by rw [hr.1]; exact h.2))
  have hq2 : (FloatKind.f64.format.order 0 0 != some .eq) = false := by decide +kernel
  have HM := hide2 (And.intro hh.1 hh.2.1)
  have ht := told_any M (by have := hh.2.1; omega) w
  have HL : Hid (Lg M 0 (floatOfInt .f64 (M : Int))) := Lg.start hh.1 hh.2.1
  have hM1 : M < 1000000000000000 := hh.2.1
  clear hd h hx hr hh
  rw [← sgL_app]
  have hS : (sgL (ng x)).length ≤ 1 := by cases ng x <;> decide
  obtain ⟨S, hSe⟩ : ∃ S, sgL (ng x) = S := ⟨_, rfl⟩
  rw [hSe] at hS ⊢
  obtain ⟨T, hT⟩ : ∃ T, decT M k = T := ⟨_, rfl⟩
  rw [hT]
  have HT := hide2 hT
  have n1 := List.length_pos_iff.2 (dd_ne M)
  have n2 : (Lib.decDigits M).length ≤ 15 := dd_len (j := 15) (by omega) (by decide)
  obtain ⟨d, hde⟩ : ∃ d, Lib.decDigits M = d := ⟨_, rfl⟩
  rw [hde] at ht n1 n2
  have HE := hide2 hde
  clear hT hde
  generalize rg x = y at *
  go_enter Tryd.func31, Tryd.ntmps31
  go_upto_if 16 with (go_at_call 33; refine hbel.mono ?_; rintro e w1 ⟨rfl, rfl⟩)
  go_cut [0, 4] (fun a b wx => a = .float .f64 y ∧ b = .string ⟨S.toArray⟩ ∧ wx = w1)
  case first =>
    cases hg : ng x with
    | true =>
      have rN : ∀ W, (Op.unary UnOp.neg (.float .f64 x)).run Tryd.prog W = .ok (.float .f64 y) W := fun W => by rw [neg_run, hneg hg]
      rw [hg] at hSe
      clear hpos hg hneg
      go_wp2_with (fail)
      go_meet
      case rel => exact ⟨rfl, by rw [← hSe]; rfl, rfl⟩
    | false =>
      rw [hg] at hSe
      have hp := hpos hg
      clear hpos hg hneg
      go_wp2_with (fail)
      go_meet
      case rel => exact ⟨by rw [hp], by rw [← hSe]; rfl, rfl⟩
  case rest =>
    obtain ⟨rfl, rfl, hwc⟩ := hcut
    subst hwc
    clear hSe hneg hpos hbel c1
    by_cases hk : k < 0
    · clear HL HM
      go_wp2_with (first
        | (go_at_call 52; refine hdec.mono ?_; rintro e w' ⟨rfl, rfl⟩)
        | (go_at_call 30; refine ht.mono ?_; rintro e w2 ⟨rfl, hb⟩))
      go_loop [8] (fun t => ∃ j : Nat, t = .string ⟨(List.replicate j 48 ++ d).toArray⟩ ∧ (j : Int) ≤ max 0 (1 - k - (d.length : Int))) (fun t => 100 - strLen t)
      case atStart => exact ⟨0, rfl, by omega⟩
      case round =>
        obtain ⟨j, rfl, hj⟩ := hrel
        obtain ⟨D, hD⟩ : ∃ D, List.replicate j 48 ++ d = D := ⟨_, rfl⟩
        have hDl : D.length = j + d.length := by rw [← hD, List.length_append, List.length_replicate]
        have HD := hide2 (And.intro hD hDl)
        rw [hD]
        have hDb : D.length ≤ 40 := by omega
        by_cases hlt : (D.length : Int) < 1 - k
        · have hA : (ByteArray.mk #[48]) ++ ⟨D.toArray⟩ = ⟨(48 :: D).toArray⟩ := sadd [48] D
          clear hD hDl
          go_wp2_with (fail)
          go_round
          case rel =>
            refine ⟨j + 1, ?_, ?_⟩
            · rw [List.replicate_succ, List.cons_append, HD.out.1]
            · have := HD.out.2; omega
          case measure => simp [strLen, ByteArray.size]; omega
        · obtain ⟨P, hP, hPl⟩ : ∃ P : Nat, (D.length : Int) + k = (P : Int) ∧ P ≤ D.length := ⟨((D.length : Int) + k).toNat, by omega, by omega⟩
          have HP := hide2 (And.intro hP (And.intro hlt hj))
          clear hD hDl
          go_wp2_with (fail)
          go_quiet (fail)
          go_wp2_with (fail)
          go_ret2
          refine ⟨congrArg (fun l => Ending.returned (.tuple #[.string l, .int .i64 0])) (?_ : _ = (⟨(S ++ T).toArray⟩ : ByteArray)), below_drewN hb _⟩
          rw [← HT.out]
          unfold decT
          rw [if_pos hk, HE.out]
          obtain ⟨hD, hDl⟩ := HD.out
          obtain ⟨hP, hlt, hj⟩ := HP.out
          have ej : (1 - k - (d.length : Int)).toNat = j := by omega
          have eP : j + d.length - k.natAbs = P := by omega
          rw [ej, hD, eP]
          simp only [sadd, sext, List.take_length]
          simp
    · obtain ⟨j, rfl⟩ : ∃ j : Nat, k = j := ⟨k.toNat, by omega⟩
      have k0 : (0 : Int) ≤ (j : Int) := by omega
      clear hk
      go_wp2_with (first
        | (go_at_call 52; refine hdec.mono ?_; rintro e w' ⟨rfl, rfl⟩)
        | (go_at_call 30; refine ht.mono ?_; rintro e w2 ⟨rfl, hb⟩))
      have HB := hide2 hb
      clear hdec ht rS hb
      go_loop [9, 10] (fun a b => ∃ i z : Nat, a = .float .f64 z ∧ b = .int .i64 (i : Int) ∧ i ≤ j + 1 ∧ Lg M i z) (fun a b => (j + 1 - intOf b).toNat)
      case atStart => exact ⟨0, _, rfl, rfl, by omega, HL.out⟩
      case round =>
        obtain ⟨i, z, rfl, rfl, hi, hg⟩ := hrel
        by_cases hij : (i : Int) ≤ (j : Int)
        · obtain ⟨z2, hm, hg2⟩ := hg.step HM.out.1 (by omega)
          have rM : ∀ W, (binOp .mul 23 (.float .f64 z) (.float .f64 4621819117588971520)).run Tryd.prog W = .ok (.float .f64 z2) W := fun W => run_float_arith W .mul 23 .f64 _ _ _ hm
          have HG := hide2 hg2
          clear hg hm hg2
          go_wp2_with (fail)
          go_round
          case rel => exact ⟨i + 1, z2, rfl, by simp, by omega, HG.out⟩
          case measure => simp [intOf]; omega
        · have ei : i = j + 1 := by omega
          subst ei
          have hge := hg.ge
          have hwi := whole_iff (m := M) (j := j) HM.out.1
          rw [HE.out] at hwi
          by_cases hw : 1000000000000000 ≤ M * 10 ^ (j + 1)
          · rw [decide_eq_true hw] at hge
            have h15 : ¬ ((d.length : Int) + (j : Int) + 1 ≤ 15) := by omega
            have HW := hide2 h15
            clear hg hw hwi
            by_cases h1 : d.length = 1
            · obtain ⟨c, rfl⟩ := List.length_eq_one_iff.1 h1
              have ht := told_any j (by omega)
              have hp : (Lib.decDigits j).length ≤ 2 := dd_len (by omega) (by decide)
              obtain ⟨p, hpe⟩ : ∃ p, Lib.decDigits j = p := ⟨_, rfl⟩
              rw [hpe] at ht hp
              have HP := hide2 hpe
              clear hpe
              go_wp2_with (go_at_call 30; refine (ht _).mono ?_; rintro e w3 ⟨rfl, hb3⟩)
              go_ret2
              refine ⟨congrArg (fun l => Ending.returned (.tuple #[.string l, .int .i64 0])) (?_ : _ = (⟨(S ++ T).toArray⟩ : ByteArray)), HB.out.trans (hb3.mono HB.out.size)⟩
              rw [← HT.out]
              unfold decT
              have hw := HW.out
              rw [if_neg (by omega), HE.out, if_neg (by omega), if_pos (show [c].length = 1 from rfl), Int.natAbs_natCast, HP.out]
              simp only [sadd]
              simp
            · have hne : ((d.length : Int) == 1) = false := by rw [beq_eq_false_iff_ne]; omega
              obtain ⟨q, hq, hq2⟩ : ∃ q : Nat, (j : Int) + (d.length : Int) - 1 = (q : Int) ∧ q < 100 := ⟨j + d.length - 1, by omega, by omega⟩
              have ht := told_any q (by omega)
              have hp : (Lib.decDigits q).length ≤ 2 := dd_len (by omega) (by decide)
              obtain ⟨p, hpe⟩ : ∃ p, Lib.decDigits q = p := ⟨_, rfl⟩
              rw [hpe] at ht hp
              have HP := hide2 hpe
              have HQ := hide2 hq
              have wq : IntKind.u64.wrap (q : Int) = (q : Int) := by rw [IntKind.wrap_u64]; omega
              have wq3 : IntKind.i64.wrap (q : Int) = (q : Int) := by rw [IntKind.wrap_i64]; omega
              have wq1 : IntKind.i64.wrap ((j : Int) + (d.length : Int)) = (j : Int) + (d.length : Int) := by rw [IntKind.wrap_i64]; omega
              have wq2 : IntKind.i64.wrap ((j : Int) + (d.length : Int) - 1) = (q : Int) := by rw [IntKind.wrap_i64]; omega
              have n3 : 2 ≤ d.length := by omega
              obtain ⟨d1, hd1⟩ : ∃ d1, d.take 1 = d1 := ⟨_, rfl⟩
              obtain ⟨d2, hd2⟩ : ∃ d2, d.drop 1 = d2 := ⟨_, rfl⟩
              have e1 : (ByteArray.mk d.toArray).extract 0 1 = ⟨d1.toArray⟩ := by rw [sext, List.drop_zero, hd1]
              have e2 : (ByteArray.mk d.toArray).extract 1 d.length = ⟨d2.toArray⟩ := by rw [sext, List.take_length, hd2]
              have l1 : d1.length ≤ 1 := by rw [← hd1, List.length_take]; omega
              have l2 : d2.length ≤ 15 := by rw [← hd2, List.length_drop]; omega
              have HDD := hide2 (And.intro hd1 hd2)
              obtain ⟨A1, hA1⟩ : ∃ A, S ++ d1 = A := ⟨_, rfl⟩
              obtain ⟨A2, hA2⟩ : ∃ A, A1 ++ [46] = A := ⟨_, rfl⟩
              obtain ⟨A3, hA3⟩ : ∃ A, A2 ++ d2 = A := ⟨_, rfl⟩
              obtain ⟨A4, hA4⟩ : ∃ A, A3 ++ [101] = A := ⟨_, rfl⟩
              obtain ⟨A5, hA5⟩ : ∃ A, A4 ++ p = A := ⟨_, rfl⟩
              have HAA : Hid (A5 = S ++ (d1 ++ 46 :: (d2 ++ 101 :: p))) := by
                show _ = _
                rw [← hA5, ← hA4, ← hA3, ← hA2, ← hA1]; simp
              have g1 : A1.length ≤ 2 := by rw [← hA1, List.length_append]; omega
              have g2 : A2.length ≤ 3 := by rw [← hA2, List.length_append]; simp; omega
              have g3 : A3.length ≤ 18 := by rw [← hA3, List.length_append]; omega
              have g4 : A4.length ≤ 19 := by rw [← hA4, List.length_append]; simp; omega
              have g5 : A5.length ≤ 21 := by rw [← hA5, List.length_append]; omega
              have t1 := fun W => str_add W S d1 A1 hA1 (by omega)
              have t2 := fun W => str_add W A1 [46] A2 hA2 (by omega)
              have t3 := fun W => str_add W A2 d2 A3 hA3 (by omega)
              have t4 := fun W => str_add W A3 [101] A4 hA4 (by omega)
              have t5 := fun W => str_add W A4 p A5 hA5 (by omega)
              clear hA1 hA2 hA3 hA4 hA5
              have i1 : (1 : Int) ≤ (d.length : Int) := by omega
              have i2 : 1 ≤ d.length := by omega
              have H1 := hide2 h1
              clear hd1 hd2 n1 h1
              clear hpe
              go_wp2_with (fail)
              go_region_held3 (fun w' => w'.heap.size = w'.heap.size) (first | rfl | trivial | go_keep) (first | (go_at_call 30; refine (ht _).mono ?_; rintro e w3 ⟨rfl, hb3⟩))
              go_wp2_with (fail)
              go_ret2
              refine ⟨congrArg (fun l => Ending.returned (.tuple #[.string l, .int .i64 0])) (?_ : _ = (⟨(S ++ T).toArray⟩ : ByteArray)), ?_⟩
              · rw [← HT.out]
                unfold decT
                have hw := HW.out
                have hq := HQ.out
                rw [if_neg (by omega), HE.out, if_neg (by omega), if_neg H1.out, Int.natAbs_natCast, show j + d.length - 1 = q by omega, HP.out]
                rw [HDD.out.1, HDD.out.2, ← HAA.out]
              · exact below_step HB.out hb3
          · rw [decide_eq_false hw] at hge
            have h15 : (d.length : Int) + (j : Int) + 1 ≤ 15 := by omega
            have HW := hide2 h15
            clear hg hw hwi h15
            go_wp2_with (fail)
            go_loop [8, 11] (fun a b => ∃ i : Nat, a = .string ⟨(d ++ List.replicate i 48).toArray⟩ ∧ b = .int .i64 (i : Int) ∧ i ≤ j) (fun a b => (j - intOf b).toNat)
            case atStart => exact ⟨0, by simp, rfl, by omega⟩
            case round =>
              obtain ⟨i, rfl, rfl, hi2⟩ := hrel
              obtain ⟨D, hD⟩ : ∃ D, d ++ List.replicate i 48 = D := ⟨_, rfl⟩
              have hDl : D.length = d.length + i := by rw [← hD, List.length_append, List.length_replicate]
              have HD := hide2 hD
              rw [hD]
              have hDb : D.length ≤ 40 := by omega
              clear hD hDl
              by_cases hlt : (i : Int) < (j : Int)
              · have hA : (ByteArray.mk D.toArray) ++ ⟨#[48]⟩ = ⟨(D ++ [48]).toArray⟩ := sadd D [48]
                go_wp2_with (fail)
                go_round
                case rel => exact ⟨i + 1, by rw [List.replicate_succ', ← List.append_assoc, HD.out], by simp, by omega⟩
                case measure => simp [intOf]; omega
              · have ei : i = j := by omega
                go_wp2_with (fail)
                go_ret2
                refine ⟨congrArg (fun l => Ending.returned (.tuple #[.string l, .int .i64 0])) (?_ : _ = (⟨(S ++ T).toArray⟩ : ByteArray)), HB.out⟩
                rw [← HT.out]
                unfold decT
                have hw := HW.out
                rw [if_neg (by omega), HE.out, if_pos hw, Int.natAbs_natCast, ← HD.out, ei]
                simp only [sadd]
                simp
end Go.Proofs.YthfmepnlbaifcaaDoor
