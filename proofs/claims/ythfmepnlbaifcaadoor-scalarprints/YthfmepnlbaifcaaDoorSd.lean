/-
  The document's decimal, way by way (made by a generator).
-/
import Derived.Test.YthfmepnlbaifcaaDoorSc
namespace Go.Proofs.YthfmepnlbaifcaaDoor
open Go.RowKit
set_option linter.unusedVariables false
set_option linter.unusedSimpArgs false
theorem minus_at (l u : List UInt8) (m : Bool) (hu : unM l = u) (hm : hasM l = m) (w : World) (hs : l.length ≤ 2 ^ 47) :
    Calls Tryd.prog 42 #[.string ⟨l.toArray⟩] w fun e w' => e = .returned (.tuple #[.string ⟨u.toArray⟩, .bool m]) ∧ w' = w := by
  subst hu hm
  exact minus_any l w (by omega)
theorem whole_at (l : List UInt8) (b : Bool) (hb : whl l = b) (w : World) (hs : l.length ≤ 2 ^ 47) :
    Calls Tryd.prog 43 #[.string ⟨l.toArray⟩] w fun e w' => e = .returned (.bool b) ∧ w' = w := by
  subst hb
  exact whole_any l w (by omega)
theorem digits_at (l : List UInt8) (b : Bool) (hb : dgs l = b) (w : World) (hs : l.length ≤ 2 ^ 47) :
    Calls Tryd.prog 46 #[.string ⟨l.toArray⟩] w fun e w' => e = .returned (.bool b) ∧ w' = w := by
  subst hb
  exact digits_any l w (by omega)
theorem cut_at (l x y : List UInt8) (c : UInt8) (z : Int) (hz : (c.toNat : Int) = z) (h : cutB c l = some (x, y)) (w : World) (hs : l.length ≤ 2 ^ 47) :
    Calls Tryd.prog 45 #[.string ⟨l.toArray⟩, .int .u8 z] w fun e w' => e = .returned (.tuple #[.string ⟨x.toArray⟩, .string ⟨y.toArray⟩, .bool true]) ∧ ∃ q, w' = w.drewN q := by
  subst hz
  have := cut_any l c w (by omega)
  rw [cutE, h] at this
  exact this
theorem cut_no (l : List UInt8) (c : UInt8) (z : Int) (hz : (c.toNat : Int) = z) (h : cutB c l = none) (w : World) (hs : l.length ≤ 2 ^ 47) :
    Calls Tryd.prog 45 #[.string ⟨l.toArray⟩, .int .u8 z] w fun e w' => e = .returned (.tuple #[.string ⟨l.toArray⟩, .string ⟨#[]⟩, .bool false]) ∧ ∃ q, w' = w.drewN q := by
  subst hz
  have := cut_any l c w (by omega)
  rw [cutE, h] at this
  exact this
theorem cut_two (u : List UInt8) (h1 : cutB 101 u = none) (r : Ending) (h2 : cutE 46 u = r) (z : Int) (E : Ending) (h : (z = 101 ∧ E = .returned (.tuple #[.string ⟨u.toArray⟩, .string ⟨#[]⟩, .bool false])) ∨ (z = 46 ∧ E = r)) (w : World) (hs : u.length ≤ 2 ^ 47) :
    Calls Tryd.prog 45 #[.string ⟨u.toArray⟩, .int .u8 z] w fun e w' => e = E ∧ ∃ q, w' = w.drewN q := by
  rcases h with ⟨rfl, rfl⟩ | ⟨rfl, rfl⟩
  · exact cut_no u 101 101 rfl h1 w hs
  · rw [← h2]
    exact cut_any u 46 w (by omega)
theorem number_ok (l : List UInt8) (lim : Nat) (z : Int) (hz : (lim : Int) = z) (v : Int) (hv : (val l : Int) = v) (hd : dgs l = true) (h9 : 9 ≤ lim) (h64 : lim < 18446744073709551616) (h : val l ≤ lim) (w : World) (hs : l.length ≤ 2 ^ 48) :
    Calls Tryd.prog 44 #[.string ⟨l.toArray⟩, .int .u64 z] w fun e w' => e = .returned (.tuple #[.int .u64 v, .bool true]) ∧ w' = w := by
  subst hz hv
  have := number_any l lim w (by omega) (dgs_iff.1 hd).1 h9 h64
  rwa [numE_ok h] at this
theorem number_no (l : List UInt8) (lim : Nat) (z : Int) (hz : (lim : Int) = z) (hd : dgs l = true) (h9 : 9 ≤ lim) (h64 : lim < 18446744073709551616) (h : ¬ val l ≤ lim) (w : World) (hs : l.length ≤ 2 ^ 48) :
    Calls Tryd.prog 44 #[.string ⟨l.toArray⟩, .int .u64 z] w fun e w' => e = .returned (.tuple #[.int .u64 0, .bool false]) ∧ w' = w := by
  subst hz
  have := number_any l lim w (by omega) (dgs_iff.1 hd).1 h9 h64
  rwa [numE_no h] at this
theorem mk_append (a b : List UInt8) : (ByteArray.mk a.toArray) ++ ⟨b.toArray⟩ = ⟨(a ++ b).toArray⟩ := by
  apply ByteArray.ext
  simp
theorem scaled_at (V : Int) (k : Int) (m : Nat) (hV : (m : Int) = V) (x : Nat) (hx : scF m k = x) (h : m < 1000000000000000 ∧ -22 ≤ k ∧ k ≤ 22) (w : World) :
    Calls Tryd.prog 47 #[.int .u64 V, .int .i64 k] w fun e w' => e = .returned (.tuple #[.float .f64 x, .int .i64 0]) ∧ w' = w := by
  subst hV hx
  have := rScaled_any m k w (by omega)
  rwa [scE, if_pos h] at this
theorem scaled_no (V : Int) (k : Int) (m : Nat) (hV : (m : Int) = V) (hm : m < 1000000000000000) (h : ¬ (-22 ≤ k ∧ k ≤ 22)) (w : World) :
    Calls Tryd.prog 47 #[.int .u64 V, .int .i64 k] w fun e w' => e = .returned (.tuple #[.float .f64 0, .int .i64 2]) ∧ w' = w := by
  subst hV
  have := rScaled_any m k w (by omega)
  rwa [scE, if_neg (by omega)] at this
theorem neg_run (y : Nat) (W : World) : (Op.unary UnOp.neg (.float .f64 y)).run Tryd.prog W = .ok (.float .f64 (Op.negFloat .f64 y)) W := rfl
theorem dec0_nodot (l u : List UInt8) (m : Bool) (hu : unM l = u) (hm : hasM l = m) (w : World) (hs : l.length ≤ 2 ^ 47) (hsu : u.length ≤ 2 ^ 47) (h1 : cutB 101 u = none) (h2 : cutB 46 u = none) :
    Calls Tryd.prog 26 #[.string ⟨l.toArray⟩] w fun e w' => e = .returned (.tuple #[(.float .f64 0), .bool false]) ∧ ∃ q, w' = w.drewN q := by
  have HH := hide2 (And.intro hs hsu)
  go_enter Tryd.func26, Tryd.ntmps26
  go_wp2_with (first
      | (go_at_call_of 42 (Value.string ⟨l.toArray⟩); refine (minus_at l u m hu hm _ hs).mono ?_; rintro e w' ⟨rfl, rfl⟩)
      | (go_at_call 45; refine (cut_two u h1 _ (show cutE 46 u = .returned (.tuple #[.string ⟨u.toArray⟩, .string ⟨#[]⟩, .bool false]) by rw [cutE, h2]) _ _ (by first | exact .inl ⟨rfl, rfl⟩ | exact .inr ⟨rfl, rfl⟩) _ hsu).mono ?_; rintro e w' ⟨rfl, q1, rfl⟩))
  go_ret2
  refine ⟨rfl, ?_⟩
  exact ⟨_, rfl⟩
theorem dec0_notwhole (l u : List UInt8) (m : Bool) (hu : unM l = u) (hm : hasM l = m) (w : World) (hs : l.length ≤ 2 ^ 47) (hsu : u.length ≤ 2 ^ 47) (h1 : cutB 101 u = none) (a b : List UInt8) (h2 : cutB 46 u = some (a, b)) (hsa : a.length ≤ 2 ^ 47) (hsb : b.length ≤ 2 ^ 47) (h3 : whl a = false) :
    Calls Tryd.prog 26 #[.string ⟨l.toArray⟩] w fun e w' => e = .returned (.tuple #[(.float .f64 0), .bool false]) ∧ ∃ q, w' = w.drewN q := by
  have HH := hide2 (And.intro hs hsu)
  go_enter Tryd.func26, Tryd.ntmps26
  go_wp2_with (first
      | (go_at_call_of 42 (Value.string ⟨l.toArray⟩); refine (minus_at l u m hu hm _ hs).mono ?_; rintro e w' ⟨rfl, rfl⟩)
      | (go_at_call 45; refine (cut_two u h1 _ (show cutE 46 u = .returned (.tuple #[.string ⟨a.toArray⟩, .string ⟨b.toArray⟩, .bool true]) by rw [cutE, h2]) _ _ (by first | exact .inl ⟨rfl, rfl⟩ | exact .inr ⟨rfl, rfl⟩) _ hsu).mono ?_; rintro e w' ⟨rfl, q1, rfl⟩)
      | (go_at_call 43; refine (whole_at a _ h3 _ hsa).mono ?_; rintro e w' ⟨rfl, rfl⟩))
  go_ret2
  refine ⟨rfl, ?_⟩
  exact ⟨_, rfl⟩
theorem dec0_notdigits (l u : List UInt8) (m : Bool) (hu : unM l = u) (hm : hasM l = m) (w : World) (hs : l.length ≤ 2 ^ 47) (hsu : u.length ≤ 2 ^ 47) (h1 : cutB 101 u = none) (a b : List UInt8) (h2 : cutB 46 u = some (a, b)) (hsa : a.length ≤ 2 ^ 47) (hsb : b.length ≤ 2 ^ 47) (h3 : whl a = true) (h4 : dgs b = false) :
    Calls Tryd.prog 26 #[.string ⟨l.toArray⟩] w fun e w' => e = .returned (.tuple #[(.float .f64 0), .bool false]) ∧ ∃ q, w' = w.drewN q := by
  have HH := hide2 (And.intro hs hsu)
  go_enter Tryd.func26, Tryd.ntmps26
  go_wp2_with (first
      | (go_at_call_of 42 (Value.string ⟨l.toArray⟩); refine (minus_at l u m hu hm _ hs).mono ?_; rintro e w' ⟨rfl, rfl⟩)
      | (go_at_call 45; refine (cut_two u h1 _ (show cutE 46 u = .returned (.tuple #[.string ⟨a.toArray⟩, .string ⟨b.toArray⟩, .bool true]) by rw [cutE, h2]) _ _ (by first | exact .inl ⟨rfl, rfl⟩ | exact .inr ⟨rfl, rfl⟩) _ hsu).mono ?_; rintro e w' ⟨rfl, q1, rfl⟩)
      | (go_at_call 43; refine (whole_at a _ h3 _ hsa).mono ?_; rintro e w' ⟨rfl, rfl⟩)
      | (go_at_call_of 46 (Value.string ⟨b.toArray⟩); refine (digits_at b _ h4 _ hsb).mono ?_; rintro e w' ⟨rfl, rfl⟩))
  go_ret2
  refine ⟨rfl, ?_⟩
  exact ⟨_, rfl⟩
theorem dec0_great (l u : List UInt8) (m : Bool) (hu : unM l = u) (hm : hasM l = m) (w : World) (hs : l.length ≤ 2 ^ 47) (hsu : u.length ≤ 2 ^ 47) (h1 : cutB 101 u = none) (a b : List UInt8) (h2 : cutB 46 u = some (a, b)) (hsa : a.length ≤ 2 ^ 47) (hsb : b.length ≤ 2 ^ 47) (h3 : whl a = true) (h4 : dgs b = true) (A : List UInt8) (hA : a ++ b = A) (hsA : A.length ≤ 2 ^ 48) (hdA : dgs A = true)  (h7 : ¬ val A ≤ 999999999999999) :
    Calls Tryd.prog 26 #[.string ⟨l.toArray⟩] w fun e w' => e = .returned (.tuple #[(.float .f64 0), .bool false]) ∧ ∃ q, w' = w.drewN q := by
  have hAA : (ByteArray.mk a.toArray) ++ ⟨b.toArray⟩ = ⟨A.toArray⟩ := by rw [mk_append, hA]
  have HH := hide2 (And.intro hs hsu)
  go_enter Tryd.func26, Tryd.ntmps26
  go_wp2_with (first
      | (go_at_call_of 42 (Value.string ⟨l.toArray⟩); refine (minus_at l u m hu hm _ hs).mono ?_; rintro e w' ⟨rfl, rfl⟩)
      | (go_at_call 45; refine (cut_two u h1 _ (show cutE 46 u = .returned (.tuple #[.string ⟨a.toArray⟩, .string ⟨b.toArray⟩, .bool true]) by rw [cutE, h2]) _ _ (by first | exact .inl ⟨rfl, rfl⟩ | exact .inr ⟨rfl, rfl⟩) _ hsu).mono ?_; rintro e w' ⟨rfl, q1, rfl⟩)
      | (go_at_call 43; refine (whole_at a _ h3 _ hsa).mono ?_; rintro e w' ⟨rfl, rfl⟩)
      | (go_at_call_of 46 (Value.string ⟨b.toArray⟩); refine (digits_at b _ h4 _ hsb).mono ?_; rintro e w' ⟨rfl, rfl⟩)
      | (go_at_call 44; refine (number_no A 999999999999999 999999999999999 rfl hdA (by decide) (by decide) h7 _ hsA).mono ?_; rintro e w' ⟨rfl, rfl⟩))
  go_ret2
  refine ⟨rfl, ?_⟩
  exact ⟨_, rfl⟩
theorem dec0_long (l u : List UInt8) (m : Bool) (hu : unM l = u) (hm : hasM l = m) (w : World) (hs : l.length ≤ 2 ^ 47) (hsu : u.length ≤ 2 ^ 47) (h1 : cutB 101 u = none) (a b : List UInt8) (h2 : cutB 46 u = some (a, b)) (hsa : a.length ≤ 2 ^ 47) (hsb : b.length ≤ 2 ^ 47) (h3 : whl a = true) (h4 : dgs b = true) (A : List UInt8) (hA : a ++ b = A) (hsA : A.length ≤ 2 ^ 48) (hdA : dgs A = true)  (h7 : val A ≤ 999999999999999) (V : Int) (hV : (val A : Int) = V) (hV0 : 0 ≤ V) (hV9 : V ≤ 999999999999999) (h8 : 200 < (b.length : Int)) :
    Calls Tryd.prog 26 #[.string ⟨l.toArray⟩] w fun e w' => e = .returned (.tuple #[(.float .f64 0), .bool false]) ∧ ∃ q, w' = w.drewN q := by
  have hAA : (ByteArray.mk a.toArray) ++ ⟨b.toArray⟩ = ⟨A.toArray⟩ := by rw [mk_append, hA]
  have HH := hide2 (And.intro hs hsu)
  go_enter Tryd.func26, Tryd.ntmps26
  go_wp2_with (first
      | (go_at_call_of 42 (Value.string ⟨l.toArray⟩); refine (minus_at l u m hu hm _ hs).mono ?_; rintro e w' ⟨rfl, rfl⟩)
      | (go_at_call 45; refine (cut_two u h1 _ (show cutE 46 u = .returned (.tuple #[.string ⟨a.toArray⟩, .string ⟨b.toArray⟩, .bool true]) by rw [cutE, h2]) _ _ (by first | exact .inl ⟨rfl, rfl⟩ | exact .inr ⟨rfl, rfl⟩) _ hsu).mono ?_; rintro e w' ⟨rfl, q1, rfl⟩)
      | (go_at_call 43; refine (whole_at a _ h3 _ hsa).mono ?_; rintro e w' ⟨rfl, rfl⟩)
      | (go_at_call_of 46 (Value.string ⟨b.toArray⟩); refine (digits_at b _ h4 _ hsb).mono ?_; rintro e w' ⟨rfl, rfl⟩)
      | (go_at_call 44; refine (number_ok A 999999999999999 999999999999999 rfl V hV hdA (by decide) (by decide) h7 _ hsA).mono ?_; rintro e w' ⟨rfl, rfl⟩))
  go_ret2
  refine ⟨rfl, ?_⟩
  exact ⟨_, rfl⟩
theorem dec0_badk (l u : List UInt8) (m : Bool) (hu : unM l = u) (hm : hasM l = m) (w : World) (hs : l.length ≤ 2 ^ 47) (hsu : u.length ≤ 2 ^ 47) (h1 : cutB 101 u = none) (a b : List UInt8) (h2 : cutB 46 u = some (a, b)) (hsa : a.length ≤ 2 ^ 47) (hsb : b.length ≤ 2 ^ 47) (h3 : whl a = true) (h4 : dgs b = true) (A : List UInt8) (hA : a ++ b = A) (hsA : A.length ≤ 2 ^ 48) (hdA : dgs A = true)  (h7 : val A ≤ 999999999999999) (V : Int) (hV : (val A : Int) = V) (hV0 : 0 ≤ V) (hV9 : V ≤ 999999999999999) (h8 : ¬ 200 < (b.length : Int)) (k : Int) (hk : 0 - (b.length : Int) = k) (h9 : ¬ (-22 ≤ k ∧ k ≤ 22)) :
    Calls Tryd.prog 26 #[.string ⟨l.toArray⟩] w fun e w' => e = .returned (.tuple #[(.float .f64 0), .bool false]) ∧ ∃ q, w' = w.drewN q := by
  have hAA : (ByteArray.mk a.toArray) ++ ⟨b.toArray⟩ = ⟨A.toArray⟩ := by rw [mk_append, hA]
  have HH := hide2 (And.intro hs hsu)
  go_enter Tryd.func26, Tryd.ntmps26
  go_wp2_with (first
      | (go_at_call_of 42 (Value.string ⟨l.toArray⟩); refine (minus_at l u m hu hm _ hs).mono ?_; rintro e w' ⟨rfl, rfl⟩)
      | (go_at_call 45; refine (cut_two u h1 _ (show cutE 46 u = .returned (.tuple #[.string ⟨a.toArray⟩, .string ⟨b.toArray⟩, .bool true]) by rw [cutE, h2]) _ _ (by first | exact .inl ⟨rfl, rfl⟩ | exact .inr ⟨rfl, rfl⟩) _ hsu).mono ?_; rintro e w' ⟨rfl, q1, rfl⟩)
      | (go_at_call 43; refine (whole_at a _ h3 _ hsa).mono ?_; rintro e w' ⟨rfl, rfl⟩)
      | (go_at_call_of 46 (Value.string ⟨b.toArray⟩); refine (digits_at b _ h4 _ hsb).mono ?_; rintro e w' ⟨rfl, rfl⟩)
      | (go_at_call 44; refine (number_ok A 999999999999999 999999999999999 rfl V hV hdA (by decide) (by decide) h7 _ hsA).mono ?_; rintro e w' ⟨rfl, rfl⟩)
      | (go_at_call 47; (try rw [hk]); refine (scaled_no V k (val A) hV (by omega) h9 _).mono ?_; rintro e w' ⟨rfl, rfl⟩))
  go_ret2
  refine ⟨rfl, ?_⟩
  exact ⟨_, rfl⟩
theorem dec0_okm (l u : List UInt8) (hu : unM l = u) (hm : hasM l = true) (w : World) (hs : l.length ≤ 2 ^ 47) (hsu : u.length ≤ 2 ^ 47) (h1 : cutB 101 u = none) (a b : List UInt8) (h2 : cutB 46 u = some (a, b)) (hsa : a.length ≤ 2 ^ 47) (hsb : b.length ≤ 2 ^ 47) (h3 : whl a = true) (h4 : dgs b = true) (A : List UInt8) (hA : a ++ b = A) (hsA : A.length ≤ 2 ^ 48) (hdA : dgs A = true)  (h7 : val A ≤ 999999999999999) (V : Int) (hV : (val A : Int) = V) (hV0 : 0 ≤ V) (hV9 : V ≤ 999999999999999) (h8 : ¬ 200 < (b.length : Int)) (k : Int) (hk : 0 - (b.length : Int) = k) (h9 : -22 ≤ k ∧ k ≤ 22) (y : Nat) (hy : scF (val A) k = y) :
    Calls Tryd.prog 26 #[.string ⟨l.toArray⟩] w fun e w' => e = .returned (.tuple #[(.float .f64 (Op.negFloat .f64 y)), .bool true]) ∧ ∃ q, w' = w.drewN q := by
  have hAA : (ByteArray.mk a.toArray) ++ ⟨b.toArray⟩ = ⟨A.toArray⟩ := by rw [mk_append, hA]
  have HH := hide2 (And.intro hs hsu)
  go_enter Tryd.func26, Tryd.ntmps26
  go_wp2_with (first
      | (go_at_call_of 42 (Value.string ⟨l.toArray⟩); refine (minus_at l u true hu hm _ hs).mono ?_; rintro e w' ⟨rfl, rfl⟩)
      | (go_at_call 45; refine (cut_two u h1 _ (show cutE 46 u = .returned (.tuple #[.string ⟨a.toArray⟩, .string ⟨b.toArray⟩, .bool true]) by rw [cutE, h2]) _ _ (by first | exact .inl ⟨rfl, rfl⟩ | exact .inr ⟨rfl, rfl⟩) _ hsu).mono ?_; rintro e w' ⟨rfl, q1, rfl⟩)
      | (go_at_call 43; refine (whole_at a _ h3 _ hsa).mono ?_; rintro e w' ⟨rfl, rfl⟩)
      | (go_at_call_of 46 (Value.string ⟨b.toArray⟩); refine (digits_at b _ h4 _ hsb).mono ?_; rintro e w' ⟨rfl, rfl⟩)
      | (go_at_call 44; refine (number_ok A 999999999999999 999999999999999 rfl V hV hdA (by decide) (by decide) h7 _ hsA).mono ?_; rintro e w' ⟨rfl, rfl⟩)
      | (go_at_call 47; (try rw [hk]); refine (scaled_at V k (val A) hV y hy ⟨by omega, h9⟩ _).mono ?_; rintro e w' ⟨rfl, rfl⟩))
  rw [neg_run]
  go_wp2
  go_ret2
  refine ⟨rfl, ?_⟩
  exact ⟨_, rfl⟩
theorem dec0_okp (l u : List UInt8) (hu : unM l = u) (hm : hasM l = false) (w : World) (hs : l.length ≤ 2 ^ 47) (hsu : u.length ≤ 2 ^ 47) (h1 : cutB 101 u = none) (a b : List UInt8) (h2 : cutB 46 u = some (a, b)) (hsa : a.length ≤ 2 ^ 47) (hsb : b.length ≤ 2 ^ 47) (h3 : whl a = true) (h4 : dgs b = true) (A : List UInt8) (hA : a ++ b = A) (hsA : A.length ≤ 2 ^ 48) (hdA : dgs A = true)  (h7 : val A ≤ 999999999999999) (V : Int) (hV : (val A : Int) = V) (hV0 : 0 ≤ V) (hV9 : V ≤ 999999999999999) (h8 : ¬ 200 < (b.length : Int)) (k : Int) (hk : 0 - (b.length : Int) = k) (h9 : -22 ≤ k ∧ k ≤ 22) (y : Nat) (hy : scF (val A) k = y) :
    Calls Tryd.prog 26 #[.string ⟨l.toArray⟩] w fun e w' => e = .returned (.tuple #[(.float .f64 y), .bool true]) ∧ ∃ q, w' = w.drewN q := by
  have hAA : (ByteArray.mk a.toArray) ++ ⟨b.toArray⟩ = ⟨A.toArray⟩ := by rw [mk_append, hA]
  have HH := hide2 (And.intro hs hsu)
  go_enter Tryd.func26, Tryd.ntmps26
  go_wp2_with (first
      | (go_at_call_of 42 (Value.string ⟨l.toArray⟩); refine (minus_at l u false hu hm _ hs).mono ?_; rintro e w' ⟨rfl, rfl⟩)
      | (go_at_call 45; refine (cut_two u h1 _ (show cutE 46 u = .returned (.tuple #[.string ⟨a.toArray⟩, .string ⟨b.toArray⟩, .bool true]) by rw [cutE, h2]) _ _ (by first | exact .inl ⟨rfl, rfl⟩ | exact .inr ⟨rfl, rfl⟩) _ hsu).mono ?_; rintro e w' ⟨rfl, q1, rfl⟩)
      | (go_at_call 43; refine (whole_at a _ h3 _ hsa).mono ?_; rintro e w' ⟨rfl, rfl⟩)
      | (go_at_call_of 46 (Value.string ⟨b.toArray⟩); refine (digits_at b _ h4 _ hsb).mono ?_; rintro e w' ⟨rfl, rfl⟩)
      | (go_at_call 44; refine (number_ok A 999999999999999 999999999999999 rfl V hV hdA (by decide) (by decide) h7 _ hsA).mono ?_; rintro e w' ⟨rfl, rfl⟩)
      | (go_at_call 47; (try rw [hk]); refine (scaled_at V k (val A) hV y hy ⟨by omega, h9⟩ _).mono ?_; rintro e w' ⟨rfl, rfl⟩))
  go_ret2
  refine ⟨rfl, ?_⟩
  exact ⟨_, rfl⟩
theorem dec1_nodot (l u : List UInt8) (m : Bool) (hu : unM l = u) (hm : hasM l = m) (w : World) (hs : l.length ≤ 2 ^ 47) (hsu : u.length ≤ 2 ^ 47) (x p : List UInt8) (h1 : cutB 101 u = some (x, p)) (hsx : x.length ≤ 2 ^ 47) (hsp : p.length ≤ 2 ^ 47) (h2 : cutB 46 x = none) :
    Calls Tryd.prog 26 #[.string ⟨l.toArray⟩] w fun e w' => e = .returned (.tuple #[(.float .f64 0), .bool false]) ∧ ∃ q, w' = w.drewN q := by
  have HH := hide2 (And.intro hs hsu)
  go_enter Tryd.func26, Tryd.ntmps26
  go_wp2_with (first
      | (go_at_call_of 42 (Value.string ⟨l.toArray⟩); refine (minus_at l u m hu hm _ hs).mono ?_; rintro e w' ⟨rfl, rfl⟩)
      | (go_at_call_of 45 (Value.string ⟨u.toArray⟩); refine (cut_at u x p 101 101 rfl h1 _ hsu).mono ?_; rintro e w' ⟨rfl, q1, rfl⟩)
      | (go_at_call_of 45 (Value.string ⟨x.toArray⟩); refine (cut_no x 46 46 rfl h2 _ hsx).mono ?_; rintro e w' ⟨rfl, q2, rfl⟩))
  go_ret2
  refine ⟨rfl, ?_⟩
  exact ⟨_, rfl⟩
theorem dec1_notwhole (l u : List UInt8) (m : Bool) (hu : unM l = u) (hm : hasM l = m) (w : World) (hs : l.length ≤ 2 ^ 47) (hsu : u.length ≤ 2 ^ 47) (x p : List UInt8) (h1 : cutB 101 u = some (x, p)) (hsx : x.length ≤ 2 ^ 47) (hsp : p.length ≤ 2 ^ 47) (a b : List UInt8) (h2 : cutB 46 x = some (a, b)) (hsa : a.length ≤ 2 ^ 47) (hsb : b.length ≤ 2 ^ 47) (h3 : whl a = false) :
    Calls Tryd.prog 26 #[.string ⟨l.toArray⟩] w fun e w' => e = .returned (.tuple #[(.float .f64 0), .bool false]) ∧ ∃ q, w' = w.drewN q := by
  have HH := hide2 (And.intro hs hsu)
  go_enter Tryd.func26, Tryd.ntmps26
  go_wp2_with (first
      | (go_at_call_of 42 (Value.string ⟨l.toArray⟩); refine (minus_at l u m hu hm _ hs).mono ?_; rintro e w' ⟨rfl, rfl⟩)
      | (go_at_call_of 45 (Value.string ⟨u.toArray⟩); refine (cut_at u x p 101 101 rfl h1 _ hsu).mono ?_; rintro e w' ⟨rfl, q1, rfl⟩)
      | (go_at_call_of 45 (Value.string ⟨x.toArray⟩); refine (cut_at x a b 46 46 rfl h2 _ hsx).mono ?_; rintro e w' ⟨rfl, q2, rfl⟩)
      | (go_at_call 43; refine (whole_at a _ h3 _ hsa).mono ?_; rintro e w' ⟨rfl, rfl⟩))
  go_ret2
  refine ⟨rfl, ?_⟩
  exact ⟨_, rfl⟩
theorem dec1_notdigits (l u : List UInt8) (m : Bool) (hu : unM l = u) (hm : hasM l = m) (w : World) (hs : l.length ≤ 2 ^ 47) (hsu : u.length ≤ 2 ^ 47) (x p : List UInt8) (h1 : cutB 101 u = some (x, p)) (hsx : x.length ≤ 2 ^ 47) (hsp : p.length ≤ 2 ^ 47) (a b : List UInt8) (h2 : cutB 46 x = some (a, b)) (hsa : a.length ≤ 2 ^ 47) (hsb : b.length ≤ 2 ^ 47) (h3 : whl a = true) (h4 : dgs b = false) :
    Calls Tryd.prog 26 #[.string ⟨l.toArray⟩] w fun e w' => e = .returned (.tuple #[(.float .f64 0), .bool false]) ∧ ∃ q, w' = w.drewN q := by
  have HH := hide2 (And.intro hs hsu)
  go_enter Tryd.func26, Tryd.ntmps26
  go_wp2_with (first
      | (go_at_call_of 42 (Value.string ⟨l.toArray⟩); refine (minus_at l u m hu hm _ hs).mono ?_; rintro e w' ⟨rfl, rfl⟩)
      | (go_at_call_of 45 (Value.string ⟨u.toArray⟩); refine (cut_at u x p 101 101 rfl h1 _ hsu).mono ?_; rintro e w' ⟨rfl, q1, rfl⟩)
      | (go_at_call_of 45 (Value.string ⟨x.toArray⟩); refine (cut_at x a b 46 46 rfl h2 _ hsx).mono ?_; rintro e w' ⟨rfl, q2, rfl⟩)
      | (go_at_call 43; refine (whole_at a _ h3 _ hsa).mono ?_; rintro e w' ⟨rfl, rfl⟩)
      | (go_at_call_of 46 (Value.string ⟨b.toArray⟩); refine (digits_at b _ h4 _ hsb).mono ?_; rintro e w' ⟨rfl, rfl⟩))
  go_ret2
  refine ⟨rfl, ?_⟩
  exact ⟨_, rfl⟩
theorem dec1_notP1 (l u : List UInt8) (m : Bool) (hu : unM l = u) (hm : hasM l = m) (w : World) (hs : l.length ≤ 2 ^ 47) (hsu : u.length ≤ 2 ^ 47) (x p : List UInt8) (h1 : cutB 101 u = some (x, p)) (hsx : x.length ≤ 2 ^ 47) (hsp : p.length ≤ 2 ^ 47) (a b : List UInt8) (h2 : cutB 46 x = some (a, b)) (hsa : a.length ≤ 2 ^ 47) (hsb : b.length ≤ 2 ^ 47) (h3 : whl a = true) (h4 : dgs b = true) (q : List UInt8) (ng : Bool) (hq : unM p = q) (hng : hasM p = ng) (hsq : q.length ≤ 2 ^ 47) (h5 : dgs q = false) :
    Calls Tryd.prog 26 #[.string ⟨l.toArray⟩] w fun e w' => e = .returned (.tuple #[(.float .f64 0), .bool false]) ∧ ∃ q, w' = w.drewN q := by
  have HH := hide2 (And.intro hs hsu)
  go_enter Tryd.func26, Tryd.ntmps26
  go_wp2_with (first
      | (go_at_call_of 42 (Value.string ⟨l.toArray⟩); refine (minus_at l u m hu hm _ hs).mono ?_; rintro e w' ⟨rfl, rfl⟩)
      | (go_at_call_of 45 (Value.string ⟨u.toArray⟩); refine (cut_at u x p 101 101 rfl h1 _ hsu).mono ?_; rintro e w' ⟨rfl, q1, rfl⟩)
      | (go_at_call_of 45 (Value.string ⟨x.toArray⟩); refine (cut_at x a b 46 46 rfl h2 _ hsx).mono ?_; rintro e w' ⟨rfl, q2, rfl⟩)
      | (go_at_call 43; refine (whole_at a _ h3 _ hsa).mono ?_; rintro e w' ⟨rfl, rfl⟩)
      | (go_at_call_of 46 (Value.string ⟨b.toArray⟩); refine (digits_at b _ h4 _ hsb).mono ?_; rintro e w' ⟨rfl, rfl⟩)
      | (go_at_call_of 42 (Value.string ⟨p.toArray⟩); refine (minus_at p q ng hq hng _ hsp).mono ?_; rintro e w' ⟨rfl, rfl⟩)
      | (go_at_call_of 46 (Value.string ⟨q.toArray⟩); refine (digits_at q _ h5 _ hsq).mono ?_; rintro e w' ⟨rfl, rfl⟩))
  go_ret2
  refine ⟨rfl, ?_⟩
  exact ⟨_, rfl⟩
theorem dec1_notP2 (l u : List UInt8) (m : Bool) (hu : unM l = u) (hm : hasM l = m) (w : World) (hs : l.length ≤ 2 ^ 47) (hsu : u.length ≤ 2 ^ 47) (x p : List UInt8) (h1 : cutB 101 u = some (x, p)) (hsx : x.length ≤ 2 ^ 47) (hsp : p.length ≤ 2 ^ 47) (a b : List UInt8) (h2 : cutB 46 x = some (a, b)) (hsa : a.length ≤ 2 ^ 47) (hsb : b.length ≤ 2 ^ 47) (h3 : whl a = true) (h4 : dgs b = true) (q : List UInt8) (ng : Bool) (hq : unM p = q) (hng : hasM p = ng) (hsq : q.length ≤ 2 ^ 47) (h5 : dgs q = true) (h6 : 2 < (q.length : Int)) :
    Calls Tryd.prog 26 #[.string ⟨l.toArray⟩] w fun e w' => e = .returned (.tuple #[(.float .f64 0), .bool false]) ∧ ∃ q, w' = w.drewN q := by
  have HH := hide2 (And.intro hs hsu)
  go_enter Tryd.func26, Tryd.ntmps26
  go_wp2_with (first
      | (go_at_call_of 42 (Value.string ⟨l.toArray⟩); refine (minus_at l u m hu hm _ hs).mono ?_; rintro e w' ⟨rfl, rfl⟩)
      | (go_at_call_of 45 (Value.string ⟨u.toArray⟩); refine (cut_at u x p 101 101 rfl h1 _ hsu).mono ?_; rintro e w' ⟨rfl, q1, rfl⟩)
      | (go_at_call_of 45 (Value.string ⟨x.toArray⟩); refine (cut_at x a b 46 46 rfl h2 _ hsx).mono ?_; rintro e w' ⟨rfl, q2, rfl⟩)
      | (go_at_call 43; refine (whole_at a _ h3 _ hsa).mono ?_; rintro e w' ⟨rfl, rfl⟩)
      | (go_at_call_of 46 (Value.string ⟨b.toArray⟩); refine (digits_at b _ h4 _ hsb).mono ?_; rintro e w' ⟨rfl, rfl⟩)
      | (go_at_call_of 42 (Value.string ⟨p.toArray⟩); refine (minus_at p q ng hq hng _ hsp).mono ?_; rintro e w' ⟨rfl, rfl⟩)
      | (go_at_call_of 46 (Value.string ⟨q.toArray⟩); refine (digits_at q _ h5 _ hsq).mono ?_; rintro e w' ⟨rfl, rfl⟩))
  go_ret2
  refine ⟨rfl, ?_⟩
  exact ⟨_, rfl⟩
theorem dec1_greatd (l u : List UInt8) (m : Bool) (hu : unM l = u) (hm : hasM l = m) (w : World) (hs : l.length ≤ 2 ^ 47) (hsu : u.length ≤ 2 ^ 47) (x p : List UInt8) (h1 : cutB 101 u = some (x, p)) (hsx : x.length ≤ 2 ^ 47) (hsp : p.length ≤ 2 ^ 47) (a b : List UInt8) (h2 : cutB 46 x = some (a, b)) (hsa : a.length ≤ 2 ^ 47) (hsb : b.length ≤ 2 ^ 47) (h3 : whl a = true) (h4 : dgs b = true) (q : List UInt8) (hq : unM p = q) (hng : hasM p = true) (hsq : q.length ≤ 2 ^ 47) (h5 : dgs q = true) (h6 : ¬ 2 < (q.length : Int)) (N : Int) (hN : (val q : Int) = N) (hN0 : 0 ≤ N) (hN9 : N ≤ 99) (A : List UInt8) (hA : a ++ b = A) (hsA : A.length ≤ 2 ^ 48) (hdA : dgs A = true)  (h7 : ¬ val A ≤ 999999999999999) :
    Calls Tryd.prog 26 #[.string ⟨l.toArray⟩] w fun e w' => e = .returned (.tuple #[(.float .f64 0), .bool false]) ∧ ∃ q, w' = w.drewN q := by
  have hAA : (ByteArray.mk a.toArray) ++ ⟨b.toArray⟩ = ⟨A.toArray⟩ := by rw [mk_append, hA]
  have HH := hide2 (And.intro hs hsu)
  go_enter Tryd.func26, Tryd.ntmps26
  go_wp2_with (first
      | (go_at_call_of 42 (Value.string ⟨l.toArray⟩); refine (minus_at l u m hu hm _ hs).mono ?_; rintro e w' ⟨rfl, rfl⟩)
      | (go_at_call_of 45 (Value.string ⟨u.toArray⟩); refine (cut_at u x p 101 101 rfl h1 _ hsu).mono ?_; rintro e w' ⟨rfl, q1, rfl⟩)
      | (go_at_call_of 45 (Value.string ⟨x.toArray⟩); refine (cut_at x a b 46 46 rfl h2 _ hsx).mono ?_; rintro e w' ⟨rfl, q2, rfl⟩)
      | (go_at_call 43; refine (whole_at a _ h3 _ hsa).mono ?_; rintro e w' ⟨rfl, rfl⟩)
      | (go_at_call_of 46 (Value.string ⟨b.toArray⟩); refine (digits_at b _ h4 _ hsb).mono ?_; rintro e w' ⟨rfl, rfl⟩)
      | (go_at_call_of 42 (Value.string ⟨p.toArray⟩); refine (minus_at p q true hq hng _ hsp).mono ?_; rintro e w' ⟨rfl, rfl⟩)
      | (go_at_call_of 46 (Value.string ⟨q.toArray⟩); refine (digits_at q _ h5 _ hsq).mono ?_; rintro e w' ⟨rfl, rfl⟩)
      | (go_at_call_of 44 (Value.string ⟨q.toArray⟩); refine (number_ok q 99 99 rfl N hN h5 (by decide) (by decide) (by omega) _ (by omega)).mono ?_; rintro e w' ⟨rfl, rfl⟩)
      | (go_at_call 44; refine (number_no A 999999999999999 999999999999999 rfl hdA (by decide) (by decide) h7 _ hsA).mono ?_; rintro e w' ⟨rfl, rfl⟩))
  go_ret2
  refine ⟨rfl, ?_⟩
  exact ⟨_, rfl⟩
theorem dec1_greatu (l u : List UInt8) (m : Bool) (hu : unM l = u) (hm : hasM l = m) (w : World) (hs : l.length ≤ 2 ^ 47) (hsu : u.length ≤ 2 ^ 47) (x p : List UInt8) (h1 : cutB 101 u = some (x, p)) (hsx : x.length ≤ 2 ^ 47) (hsp : p.length ≤ 2 ^ 47) (a b : List UInt8) (h2 : cutB 46 x = some (a, b)) (hsa : a.length ≤ 2 ^ 47) (hsb : b.length ≤ 2 ^ 47) (h3 : whl a = true) (h4 : dgs b = true) (q : List UInt8) (hq : unM p = q) (hng : hasM p = false) (hsq : q.length ≤ 2 ^ 47) (h5 : dgs q = true) (h6 : ¬ 2 < (q.length : Int)) (N : Int) (hN : (val q : Int) = N) (hN0 : 0 ≤ N) (hN9 : N ≤ 99) (A : List UInt8) (hA : a ++ b = A) (hsA : A.length ≤ 2 ^ 48) (hdA : dgs A = true)  (h7 : ¬ val A ≤ 999999999999999) :
    Calls Tryd.prog 26 #[.string ⟨l.toArray⟩] w fun e w' => e = .returned (.tuple #[(.float .f64 0), .bool false]) ∧ ∃ q, w' = w.drewN q := by
  have hAA : (ByteArray.mk a.toArray) ++ ⟨b.toArray⟩ = ⟨A.toArray⟩ := by rw [mk_append, hA]
  have HH := hide2 (And.intro hs hsu)
  go_enter Tryd.func26, Tryd.ntmps26
  go_wp2_with (first
      | (go_at_call_of 42 (Value.string ⟨l.toArray⟩); refine (minus_at l u m hu hm _ hs).mono ?_; rintro e w' ⟨rfl, rfl⟩)
      | (go_at_call_of 45 (Value.string ⟨u.toArray⟩); refine (cut_at u x p 101 101 rfl h1 _ hsu).mono ?_; rintro e w' ⟨rfl, q1, rfl⟩)
      | (go_at_call_of 45 (Value.string ⟨x.toArray⟩); refine (cut_at x a b 46 46 rfl h2 _ hsx).mono ?_; rintro e w' ⟨rfl, q2, rfl⟩)
      | (go_at_call 43; refine (whole_at a _ h3 _ hsa).mono ?_; rintro e w' ⟨rfl, rfl⟩)
      | (go_at_call_of 46 (Value.string ⟨b.toArray⟩); refine (digits_at b _ h4 _ hsb).mono ?_; rintro e w' ⟨rfl, rfl⟩)
      | (go_at_call_of 42 (Value.string ⟨p.toArray⟩); refine (minus_at p q false hq hng _ hsp).mono ?_; rintro e w' ⟨rfl, rfl⟩)
      | (go_at_call_of 46 (Value.string ⟨q.toArray⟩); refine (digits_at q _ h5 _ hsq).mono ?_; rintro e w' ⟨rfl, rfl⟩)
      | (go_at_call_of 44 (Value.string ⟨q.toArray⟩); refine (number_ok q 99 99 rfl N hN h5 (by decide) (by decide) (by omega) _ (by omega)).mono ?_; rintro e w' ⟨rfl, rfl⟩)
      | (go_at_call 44; refine (number_no A 999999999999999 999999999999999 rfl hdA (by decide) (by decide) h7 _ hsA).mono ?_; rintro e w' ⟨rfl, rfl⟩))
  go_ret2
  refine ⟨rfl, ?_⟩
  exact ⟨_, rfl⟩
theorem dec1_longd (l u : List UInt8) (m : Bool) (hu : unM l = u) (hm : hasM l = m) (w : World) (hs : l.length ≤ 2 ^ 47) (hsu : u.length ≤ 2 ^ 47) (x p : List UInt8) (h1 : cutB 101 u = some (x, p)) (hsx : x.length ≤ 2 ^ 47) (hsp : p.length ≤ 2 ^ 47) (a b : List UInt8) (h2 : cutB 46 x = some (a, b)) (hsa : a.length ≤ 2 ^ 47) (hsb : b.length ≤ 2 ^ 47) (h3 : whl a = true) (h4 : dgs b = true) (q : List UInt8) (hq : unM p = q) (hng : hasM p = true) (hsq : q.length ≤ 2 ^ 47) (h5 : dgs q = true) (h6 : ¬ 2 < (q.length : Int)) (N : Int) (hN : (val q : Int) = N) (hN0 : 0 ≤ N) (hN9 : N ≤ 99) (A : List UInt8) (hA : a ++ b = A) (hsA : A.length ≤ 2 ^ 48) (hdA : dgs A = true)  (h7 : val A ≤ 999999999999999) (V : Int) (hV : (val A : Int) = V) (hV0 : 0 ≤ V) (hV9 : V ≤ 999999999999999) (h8 : 200 < (b.length : Int)) :
    Calls Tryd.prog 26 #[.string ⟨l.toArray⟩] w fun e w' => e = .returned (.tuple #[(.float .f64 0), .bool false]) ∧ ∃ q, w' = w.drewN q := by
  have hAA : (ByteArray.mk a.toArray) ++ ⟨b.toArray⟩ = ⟨A.toArray⟩ := by rw [mk_append, hA]
  have HH := hide2 (And.intro hs hsu)
  go_enter Tryd.func26, Tryd.ntmps26
  go_wp2_with (first
      | (go_at_call_of 42 (Value.string ⟨l.toArray⟩); refine (minus_at l u m hu hm _ hs).mono ?_; rintro e w' ⟨rfl, rfl⟩)
      | (go_at_call_of 45 (Value.string ⟨u.toArray⟩); refine (cut_at u x p 101 101 rfl h1 _ hsu).mono ?_; rintro e w' ⟨rfl, q1, rfl⟩)
      | (go_at_call_of 45 (Value.string ⟨x.toArray⟩); refine (cut_at x a b 46 46 rfl h2 _ hsx).mono ?_; rintro e w' ⟨rfl, q2, rfl⟩)
      | (go_at_call 43; refine (whole_at a _ h3 _ hsa).mono ?_; rintro e w' ⟨rfl, rfl⟩)
      | (go_at_call_of 46 (Value.string ⟨b.toArray⟩); refine (digits_at b _ h4 _ hsb).mono ?_; rintro e w' ⟨rfl, rfl⟩)
      | (go_at_call_of 42 (Value.string ⟨p.toArray⟩); refine (minus_at p q true hq hng _ hsp).mono ?_; rintro e w' ⟨rfl, rfl⟩)
      | (go_at_call_of 46 (Value.string ⟨q.toArray⟩); refine (digits_at q _ h5 _ hsq).mono ?_; rintro e w' ⟨rfl, rfl⟩)
      | (go_at_call_of 44 (Value.string ⟨q.toArray⟩); refine (number_ok q 99 99 rfl N hN h5 (by decide) (by decide) (by omega) _ (by omega)).mono ?_; rintro e w' ⟨rfl, rfl⟩)
      | (go_at_call 44; refine (number_ok A 999999999999999 999999999999999 rfl V hV hdA (by decide) (by decide) h7 _ hsA).mono ?_; rintro e w' ⟨rfl, rfl⟩))
  go_ret2
  refine ⟨rfl, ?_⟩
  exact ⟨_, rfl⟩
theorem dec1_longu (l u : List UInt8) (m : Bool) (hu : unM l = u) (hm : hasM l = m) (w : World) (hs : l.length ≤ 2 ^ 47) (hsu : u.length ≤ 2 ^ 47) (x p : List UInt8) (h1 : cutB 101 u = some (x, p)) (hsx : x.length ≤ 2 ^ 47) (hsp : p.length ≤ 2 ^ 47) (a b : List UInt8) (h2 : cutB 46 x = some (a, b)) (hsa : a.length ≤ 2 ^ 47) (hsb : b.length ≤ 2 ^ 47) (h3 : whl a = true) (h4 : dgs b = true) (q : List UInt8) (hq : unM p = q) (hng : hasM p = false) (hsq : q.length ≤ 2 ^ 47) (h5 : dgs q = true) (h6 : ¬ 2 < (q.length : Int)) (N : Int) (hN : (val q : Int) = N) (hN0 : 0 ≤ N) (hN9 : N ≤ 99) (A : List UInt8) (hA : a ++ b = A) (hsA : A.length ≤ 2 ^ 48) (hdA : dgs A = true)  (h7 : val A ≤ 999999999999999) (V : Int) (hV : (val A : Int) = V) (hV0 : 0 ≤ V) (hV9 : V ≤ 999999999999999) (h8 : 200 < (b.length : Int)) :
    Calls Tryd.prog 26 #[.string ⟨l.toArray⟩] w fun e w' => e = .returned (.tuple #[(.float .f64 0), .bool false]) ∧ ∃ q, w' = w.drewN q := by
  have hAA : (ByteArray.mk a.toArray) ++ ⟨b.toArray⟩ = ⟨A.toArray⟩ := by rw [mk_append, hA]
  have HH := hide2 (And.intro hs hsu)
  go_enter Tryd.func26, Tryd.ntmps26
  go_wp2_with (first
      | (go_at_call_of 42 (Value.string ⟨l.toArray⟩); refine (minus_at l u m hu hm _ hs).mono ?_; rintro e w' ⟨rfl, rfl⟩)
      | (go_at_call_of 45 (Value.string ⟨u.toArray⟩); refine (cut_at u x p 101 101 rfl h1 _ hsu).mono ?_; rintro e w' ⟨rfl, q1, rfl⟩)
      | (go_at_call_of 45 (Value.string ⟨x.toArray⟩); refine (cut_at x a b 46 46 rfl h2 _ hsx).mono ?_; rintro e w' ⟨rfl, q2, rfl⟩)
      | (go_at_call 43; refine (whole_at a _ h3 _ hsa).mono ?_; rintro e w' ⟨rfl, rfl⟩)
      | (go_at_call_of 46 (Value.string ⟨b.toArray⟩); refine (digits_at b _ h4 _ hsb).mono ?_; rintro e w' ⟨rfl, rfl⟩)
      | (go_at_call_of 42 (Value.string ⟨p.toArray⟩); refine (minus_at p q false hq hng _ hsp).mono ?_; rintro e w' ⟨rfl, rfl⟩)
      | (go_at_call_of 46 (Value.string ⟨q.toArray⟩); refine (digits_at q _ h5 _ hsq).mono ?_; rintro e w' ⟨rfl, rfl⟩)
      | (go_at_call_of 44 (Value.string ⟨q.toArray⟩); refine (number_ok q 99 99 rfl N hN h5 (by decide) (by decide) (by omega) _ (by omega)).mono ?_; rintro e w' ⟨rfl, rfl⟩)
      | (go_at_call 44; refine (number_ok A 999999999999999 999999999999999 rfl V hV hdA (by decide) (by decide) h7 _ hsA).mono ?_; rintro e w' ⟨rfl, rfl⟩))
  go_ret2
  refine ⟨rfl, ?_⟩
  exact ⟨_, rfl⟩
theorem dec1_badkd (l u : List UInt8) (m : Bool) (hu : unM l = u) (hm : hasM l = m) (w : World) (hs : l.length ≤ 2 ^ 47) (hsu : u.length ≤ 2 ^ 47) (x p : List UInt8) (h1 : cutB 101 u = some (x, p)) (hsx : x.length ≤ 2 ^ 47) (hsp : p.length ≤ 2 ^ 47) (a b : List UInt8) (h2 : cutB 46 x = some (a, b)) (hsa : a.length ≤ 2 ^ 47) (hsb : b.length ≤ 2 ^ 47) (h3 : whl a = true) (h4 : dgs b = true) (q : List UInt8) (hq : unM p = q) (hng : hasM p = true) (hsq : q.length ≤ 2 ^ 47) (h5 : dgs q = true) (h6 : ¬ 2 < (q.length : Int)) (N : Int) (hN : (val q : Int) = N) (hN0 : 0 ≤ N) (hN9 : N ≤ 99) (A : List UInt8) (hA : a ++ b = A) (hsA : A.length ≤ 2 ^ 48) (hdA : dgs A = true)  (h7 : val A ≤ 999999999999999) (V : Int) (hV : (val A : Int) = V) (hV0 : 0 ≤ V) (hV9 : V ≤ 999999999999999) (h8 : ¬ 200 < (b.length : Int)) (k : Int) (hk : -N - (b.length : Int) = k) (h9 : ¬ (-22 ≤ k ∧ k ≤ 22)) :
    Calls Tryd.prog 26 #[.string ⟨l.toArray⟩] w fun e w' => e = .returned (.tuple #[(.float .f64 0), .bool false]) ∧ ∃ q, w' = w.drewN q := by
  have hAA : (ByteArray.mk a.toArray) ++ ⟨b.toArray⟩ = ⟨A.toArray⟩ := by rw [mk_append, hA]
  have HH := hide2 (And.intro hs hsu)
  go_enter Tryd.func26, Tryd.ntmps26
  go_wp2_with (first
      | (go_at_call_of 42 (Value.string ⟨l.toArray⟩); refine (minus_at l u m hu hm _ hs).mono ?_; rintro e w' ⟨rfl, rfl⟩)
      | (go_at_call_of 45 (Value.string ⟨u.toArray⟩); refine (cut_at u x p 101 101 rfl h1 _ hsu).mono ?_; rintro e w' ⟨rfl, q1, rfl⟩)
      | (go_at_call_of 45 (Value.string ⟨x.toArray⟩); refine (cut_at x a b 46 46 rfl h2 _ hsx).mono ?_; rintro e w' ⟨rfl, q2, rfl⟩)
      | (go_at_call 43; refine (whole_at a _ h3 _ hsa).mono ?_; rintro e w' ⟨rfl, rfl⟩)
      | (go_at_call_of 46 (Value.string ⟨b.toArray⟩); refine (digits_at b _ h4 _ hsb).mono ?_; rintro e w' ⟨rfl, rfl⟩)
      | (go_at_call_of 42 (Value.string ⟨p.toArray⟩); refine (minus_at p q true hq hng _ hsp).mono ?_; rintro e w' ⟨rfl, rfl⟩)
      | (go_at_call_of 46 (Value.string ⟨q.toArray⟩); refine (digits_at q _ h5 _ hsq).mono ?_; rintro e w' ⟨rfl, rfl⟩)
      | (go_at_call_of 44 (Value.string ⟨q.toArray⟩); refine (number_ok q 99 99 rfl N hN h5 (by decide) (by decide) (by omega) _ (by omega)).mono ?_; rintro e w' ⟨rfl, rfl⟩)
      | (go_at_call 44; refine (number_ok A 999999999999999 999999999999999 rfl V hV hdA (by decide) (by decide) h7 _ hsA).mono ?_; rintro e w' ⟨rfl, rfl⟩)
      | (go_at_call 47; (try rw [hk]); refine (scaled_no V k (val A) hV (by omega) h9 _).mono ?_; rintro e w' ⟨rfl, rfl⟩))
  go_ret2
  refine ⟨rfl, ?_⟩
  exact ⟨_, rfl⟩
theorem dec1_badku (l u : List UInt8) (m : Bool) (hu : unM l = u) (hm : hasM l = m) (w : World) (hs : l.length ≤ 2 ^ 47) (hsu : u.length ≤ 2 ^ 47) (x p : List UInt8) (h1 : cutB 101 u = some (x, p)) (hsx : x.length ≤ 2 ^ 47) (hsp : p.length ≤ 2 ^ 47) (a b : List UInt8) (h2 : cutB 46 x = some (a, b)) (hsa : a.length ≤ 2 ^ 47) (hsb : b.length ≤ 2 ^ 47) (h3 : whl a = true) (h4 : dgs b = true) (q : List UInt8) (hq : unM p = q) (hng : hasM p = false) (hsq : q.length ≤ 2 ^ 47) (h5 : dgs q = true) (h6 : ¬ 2 < (q.length : Int)) (N : Int) (hN : (val q : Int) = N) (hN0 : 0 ≤ N) (hN9 : N ≤ 99) (A : List UInt8) (hA : a ++ b = A) (hsA : A.length ≤ 2 ^ 48) (hdA : dgs A = true)  (h7 : val A ≤ 999999999999999) (V : Int) (hV : (val A : Int) = V) (hV0 : 0 ≤ V) (hV9 : V ≤ 999999999999999) (h8 : ¬ 200 < (b.length : Int)) (k : Int) (hk : N - (b.length : Int) = k) (h9 : ¬ (-22 ≤ k ∧ k ≤ 22)) :
    Calls Tryd.prog 26 #[.string ⟨l.toArray⟩] w fun e w' => e = .returned (.tuple #[(.float .f64 0), .bool false]) ∧ ∃ q, w' = w.drewN q := by
  have hAA : (ByteArray.mk a.toArray) ++ ⟨b.toArray⟩ = ⟨A.toArray⟩ := by rw [mk_append, hA]
  have HH := hide2 (And.intro hs hsu)
  go_enter Tryd.func26, Tryd.ntmps26
  go_wp2_with (first
      | (go_at_call_of 42 (Value.string ⟨l.toArray⟩); refine (minus_at l u m hu hm _ hs).mono ?_; rintro e w' ⟨rfl, rfl⟩)
      | (go_at_call_of 45 (Value.string ⟨u.toArray⟩); refine (cut_at u x p 101 101 rfl h1 _ hsu).mono ?_; rintro e w' ⟨rfl, q1, rfl⟩)
      | (go_at_call_of 45 (Value.string ⟨x.toArray⟩); refine (cut_at x a b 46 46 rfl h2 _ hsx).mono ?_; rintro e w' ⟨rfl, q2, rfl⟩)
      | (go_at_call 43; refine (whole_at a _ h3 _ hsa).mono ?_; rintro e w' ⟨rfl, rfl⟩)
      | (go_at_call_of 46 (Value.string ⟨b.toArray⟩); refine (digits_at b _ h4 _ hsb).mono ?_; rintro e w' ⟨rfl, rfl⟩)
      | (go_at_call_of 42 (Value.string ⟨p.toArray⟩); refine (minus_at p q false hq hng _ hsp).mono ?_; rintro e w' ⟨rfl, rfl⟩)
      | (go_at_call_of 46 (Value.string ⟨q.toArray⟩); refine (digits_at q _ h5 _ hsq).mono ?_; rintro e w' ⟨rfl, rfl⟩)
      | (go_at_call_of 44 (Value.string ⟨q.toArray⟩); refine (number_ok q 99 99 rfl N hN h5 (by decide) (by decide) (by omega) _ (by omega)).mono ?_; rintro e w' ⟨rfl, rfl⟩)
      | (go_at_call 44; refine (number_ok A 999999999999999 999999999999999 rfl V hV hdA (by decide) (by decide) h7 _ hsA).mono ?_; rintro e w' ⟨rfl, rfl⟩)
      | (go_at_call 47; (try rw [hk]); refine (scaled_no V k (val A) hV (by omega) h9 _).mono ?_; rintro e w' ⟨rfl, rfl⟩))
  go_ret2
  refine ⟨rfl, ?_⟩
  exact ⟨_, rfl⟩
theorem dec1_okdm (l u : List UInt8) (hu : unM l = u) (hm : hasM l = true) (w : World) (hs : l.length ≤ 2 ^ 47) (hsu : u.length ≤ 2 ^ 47) (x p : List UInt8) (h1 : cutB 101 u = some (x, p)) (hsx : x.length ≤ 2 ^ 47) (hsp : p.length ≤ 2 ^ 47) (a b : List UInt8) (h2 : cutB 46 x = some (a, b)) (hsa : a.length ≤ 2 ^ 47) (hsb : b.length ≤ 2 ^ 47) (h3 : whl a = true) (h4 : dgs b = true) (q : List UInt8) (hq : unM p = q) (hng : hasM p = true) (hsq : q.length ≤ 2 ^ 47) (h5 : dgs q = true) (h6 : ¬ 2 < (q.length : Int)) (N : Int) (hN : (val q : Int) = N) (hN0 : 0 ≤ N) (hN9 : N ≤ 99) (A : List UInt8) (hA : a ++ b = A) (hsA : A.length ≤ 2 ^ 48) (hdA : dgs A = true)  (h7 : val A ≤ 999999999999999) (V : Int) (hV : (val A : Int) = V) (hV0 : 0 ≤ V) (hV9 : V ≤ 999999999999999) (h8 : ¬ 200 < (b.length : Int)) (k : Int) (hk : -N - (b.length : Int) = k) (h9 : -22 ≤ k ∧ k ≤ 22) (y : Nat) (hy : scF (val A) k = y) :
    Calls Tryd.prog 26 #[.string ⟨l.toArray⟩] w fun e w' => e = .returned (.tuple #[(.float .f64 (Op.negFloat .f64 y)), .bool true]) ∧ ∃ q, w' = w.drewN q := by
  have hAA : (ByteArray.mk a.toArray) ++ ⟨b.toArray⟩ = ⟨A.toArray⟩ := by rw [mk_append, hA]
  have HH := hide2 (And.intro hs hsu)
  go_enter Tryd.func26, Tryd.ntmps26
  go_wp2_with (first
      | (go_at_call_of 42 (Value.string ⟨l.toArray⟩); refine (minus_at l u true hu hm _ hs).mono ?_; rintro e w' ⟨rfl, rfl⟩)
      | (go_at_call_of 45 (Value.string ⟨u.toArray⟩); refine (cut_at u x p 101 101 rfl h1 _ hsu).mono ?_; rintro e w' ⟨rfl, q1, rfl⟩)
      | (go_at_call_of 45 (Value.string ⟨x.toArray⟩); refine (cut_at x a b 46 46 rfl h2 _ hsx).mono ?_; rintro e w' ⟨rfl, q2, rfl⟩)
      | (go_at_call 43; refine (whole_at a _ h3 _ hsa).mono ?_; rintro e w' ⟨rfl, rfl⟩)
      | (go_at_call_of 46 (Value.string ⟨b.toArray⟩); refine (digits_at b _ h4 _ hsb).mono ?_; rintro e w' ⟨rfl, rfl⟩)
      | (go_at_call_of 42 (Value.string ⟨p.toArray⟩); refine (minus_at p q true hq hng _ hsp).mono ?_; rintro e w' ⟨rfl, rfl⟩)
      | (go_at_call_of 46 (Value.string ⟨q.toArray⟩); refine (digits_at q _ h5 _ hsq).mono ?_; rintro e w' ⟨rfl, rfl⟩)
      | (go_at_call_of 44 (Value.string ⟨q.toArray⟩); refine (number_ok q 99 99 rfl N hN h5 (by decide) (by decide) (by omega) _ (by omega)).mono ?_; rintro e w' ⟨rfl, rfl⟩)
      | (go_at_call 44; refine (number_ok A 999999999999999 999999999999999 rfl V hV hdA (by decide) (by decide) h7 _ hsA).mono ?_; rintro e w' ⟨rfl, rfl⟩)
      | (go_at_call 47; (try rw [hk]); refine (scaled_at V k (val A) hV y hy ⟨by omega, h9⟩ _).mono ?_; rintro e w' ⟨rfl, rfl⟩))
  rw [neg_run]
  go_wp2
  go_ret2
  refine ⟨rfl, ?_⟩
  exact ⟨_, rfl⟩
theorem dec1_okdp (l u : List UInt8) (hu : unM l = u) (hm : hasM l = false) (w : World) (hs : l.length ≤ 2 ^ 47) (hsu : u.length ≤ 2 ^ 47) (x p : List UInt8) (h1 : cutB 101 u = some (x, p)) (hsx : x.length ≤ 2 ^ 47) (hsp : p.length ≤ 2 ^ 47) (a b : List UInt8) (h2 : cutB 46 x = some (a, b)) (hsa : a.length ≤ 2 ^ 47) (hsb : b.length ≤ 2 ^ 47) (h3 : whl a = true) (h4 : dgs b = true) (q : List UInt8) (hq : unM p = q) (hng : hasM p = true) (hsq : q.length ≤ 2 ^ 47) (h5 : dgs q = true) (h6 : ¬ 2 < (q.length : Int)) (N : Int) (hN : (val q : Int) = N) (hN0 : 0 ≤ N) (hN9 : N ≤ 99) (A : List UInt8) (hA : a ++ b = A) (hsA : A.length ≤ 2 ^ 48) (hdA : dgs A = true)  (h7 : val A ≤ 999999999999999) (V : Int) (hV : (val A : Int) = V) (hV0 : 0 ≤ V) (hV9 : V ≤ 999999999999999) (h8 : ¬ 200 < (b.length : Int)) (k : Int) (hk : -N - (b.length : Int) = k) (h9 : -22 ≤ k ∧ k ≤ 22) (y : Nat) (hy : scF (val A) k = y) :
    Calls Tryd.prog 26 #[.string ⟨l.toArray⟩] w fun e w' => e = .returned (.tuple #[(.float .f64 y), .bool true]) ∧ ∃ q, w' = w.drewN q := by
  have hAA : (ByteArray.mk a.toArray) ++ ⟨b.toArray⟩ = ⟨A.toArray⟩ := by rw [mk_append, hA]
  have HH := hide2 (And.intro hs hsu)
  go_enter Tryd.func26, Tryd.ntmps26
  go_wp2_with (first
      | (go_at_call_of 42 (Value.string ⟨l.toArray⟩); refine (minus_at l u false hu hm _ hs).mono ?_; rintro e w' ⟨rfl, rfl⟩)
      | (go_at_call_of 45 (Value.string ⟨u.toArray⟩); refine (cut_at u x p 101 101 rfl h1 _ hsu).mono ?_; rintro e w' ⟨rfl, q1, rfl⟩)
      | (go_at_call_of 45 (Value.string ⟨x.toArray⟩); refine (cut_at x a b 46 46 rfl h2 _ hsx).mono ?_; rintro e w' ⟨rfl, q2, rfl⟩)
      | (go_at_call 43; refine (whole_at a _ h3 _ hsa).mono ?_; rintro e w' ⟨rfl, rfl⟩)
      | (go_at_call_of 46 (Value.string ⟨b.toArray⟩); refine (digits_at b _ h4 _ hsb).mono ?_; rintro e w' ⟨rfl, rfl⟩)
      | (go_at_call_of 42 (Value.string ⟨p.toArray⟩); refine (minus_at p q true hq hng _ hsp).mono ?_; rintro e w' ⟨rfl, rfl⟩)
      | (go_at_call_of 46 (Value.string ⟨q.toArray⟩); refine (digits_at q _ h5 _ hsq).mono ?_; rintro e w' ⟨rfl, rfl⟩)
      | (go_at_call_of 44 (Value.string ⟨q.toArray⟩); refine (number_ok q 99 99 rfl N hN h5 (by decide) (by decide) (by omega) _ (by omega)).mono ?_; rintro e w' ⟨rfl, rfl⟩)
      | (go_at_call 44; refine (number_ok A 999999999999999 999999999999999 rfl V hV hdA (by decide) (by decide) h7 _ hsA).mono ?_; rintro e w' ⟨rfl, rfl⟩)
      | (go_at_call 47; (try rw [hk]); refine (scaled_at V k (val A) hV y hy ⟨by omega, h9⟩ _).mono ?_; rintro e w' ⟨rfl, rfl⟩))
  go_ret2
  refine ⟨rfl, ?_⟩
  exact ⟨_, rfl⟩
theorem dec1_okum (l u : List UInt8) (hu : unM l = u) (hm : hasM l = true) (w : World) (hs : l.length ≤ 2 ^ 47) (hsu : u.length ≤ 2 ^ 47) (x p : List UInt8) (h1 : cutB 101 u = some (x, p)) (hsx : x.length ≤ 2 ^ 47) (hsp : p.length ≤ 2 ^ 47) (a b : List UInt8) (h2 : cutB 46 x = some (a, b)) (hsa : a.length ≤ 2 ^ 47) (hsb : b.length ≤ 2 ^ 47) (h3 : whl a = true) (h4 : dgs b = true) (q : List UInt8) (hq : unM p = q) (hng : hasM p = false) (hsq : q.length ≤ 2 ^ 47) (h5 : dgs q = true) (h6 : ¬ 2 < (q.length : Int)) (N : Int) (hN : (val q : Int) = N) (hN0 : 0 ≤ N) (hN9 : N ≤ 99) (A : List UInt8) (hA : a ++ b = A) (hsA : A.length ≤ 2 ^ 48) (hdA : dgs A = true)  (h7 : val A ≤ 999999999999999) (V : Int) (hV : (val A : Int) = V) (hV0 : 0 ≤ V) (hV9 : V ≤ 999999999999999) (h8 : ¬ 200 < (b.length : Int)) (k : Int) (hk : N - (b.length : Int) = k) (h9 : -22 ≤ k ∧ k ≤ 22) (y : Nat) (hy : scF (val A) k = y) :
    Calls Tryd.prog 26 #[.string ⟨l.toArray⟩] w fun e w' => e = .returned (.tuple #[(.float .f64 (Op.negFloat .f64 y)), .bool true]) ∧ ∃ q, w' = w.drewN q := by
  have hAA : (ByteArray.mk a.toArray) ++ ⟨b.toArray⟩ = ⟨A.toArray⟩ := by rw [mk_append, hA]
  have HH := hide2 (And.intro hs hsu)
  go_enter Tryd.func26, Tryd.ntmps26
  go_wp2_with (first
      | (go_at_call_of 42 (Value.string ⟨l.toArray⟩); refine (minus_at l u true hu hm _ hs).mono ?_; rintro e w' ⟨rfl, rfl⟩)
      | (go_at_call_of 45 (Value.string ⟨u.toArray⟩); refine (cut_at u x p 101 101 rfl h1 _ hsu).mono ?_; rintro e w' ⟨rfl, q1, rfl⟩)
      | (go_at_call_of 45 (Value.string ⟨x.toArray⟩); refine (cut_at x a b 46 46 rfl h2 _ hsx).mono ?_; rintro e w' ⟨rfl, q2, rfl⟩)
      | (go_at_call 43; refine (whole_at a _ h3 _ hsa).mono ?_; rintro e w' ⟨rfl, rfl⟩)
      | (go_at_call_of 46 (Value.string ⟨b.toArray⟩); refine (digits_at b _ h4 _ hsb).mono ?_; rintro e w' ⟨rfl, rfl⟩)
      | (go_at_call_of 42 (Value.string ⟨p.toArray⟩); refine (minus_at p q false hq hng _ hsp).mono ?_; rintro e w' ⟨rfl, rfl⟩)
      | (go_at_call_of 46 (Value.string ⟨q.toArray⟩); refine (digits_at q _ h5 _ hsq).mono ?_; rintro e w' ⟨rfl, rfl⟩)
      | (go_at_call_of 44 (Value.string ⟨q.toArray⟩); refine (number_ok q 99 99 rfl N hN h5 (by decide) (by decide) (by omega) _ (by omega)).mono ?_; rintro e w' ⟨rfl, rfl⟩)
      | (go_at_call 44; refine (number_ok A 999999999999999 999999999999999 rfl V hV hdA (by decide) (by decide) h7 _ hsA).mono ?_; rintro e w' ⟨rfl, rfl⟩)
      | (go_at_call 47; (try rw [hk]); refine (scaled_at V k (val A) hV y hy ⟨by omega, h9⟩ _).mono ?_; rintro e w' ⟨rfl, rfl⟩))
  rw [neg_run]
  go_wp2
  go_ret2
  refine ⟨rfl, ?_⟩
  exact ⟨_, rfl⟩
theorem dec1_okup (l u : List UInt8) (hu : unM l = u) (hm : hasM l = false) (w : World) (hs : l.length ≤ 2 ^ 47) (hsu : u.length ≤ 2 ^ 47) (x p : List UInt8) (h1 : cutB 101 u = some (x, p)) (hsx : x.length ≤ 2 ^ 47) (hsp : p.length ≤ 2 ^ 47) (a b : List UInt8) (h2 : cutB 46 x = some (a, b)) (hsa : a.length ≤ 2 ^ 47) (hsb : b.length ≤ 2 ^ 47) (h3 : whl a = true) (h4 : dgs b = true) (q : List UInt8) (hq : unM p = q) (hng : hasM p = false) (hsq : q.length ≤ 2 ^ 47) (h5 : dgs q = true) (h6 : ¬ 2 < (q.length : Int)) (N : Int) (hN : (val q : Int) = N) (hN0 : 0 ≤ N) (hN9 : N ≤ 99) (A : List UInt8) (hA : a ++ b = A) (hsA : A.length ≤ 2 ^ 48) (hdA : dgs A = true)  (h7 : val A ≤ 999999999999999) (V : Int) (hV : (val A : Int) = V) (hV0 : 0 ≤ V) (hV9 : V ≤ 999999999999999) (h8 : ¬ 200 < (b.length : Int)) (k : Int) (hk : N - (b.length : Int) = k) (h9 : -22 ≤ k ∧ k ≤ 22) (y : Nat) (hy : scF (val A) k = y) :
    Calls Tryd.prog 26 #[.string ⟨l.toArray⟩] w fun e w' => e = .returned (.tuple #[(.float .f64 y), .bool true]) ∧ ∃ q, w' = w.drewN q := by
  have hAA : (ByteArray.mk a.toArray) ++ ⟨b.toArray⟩ = ⟨A.toArray⟩ := by rw [mk_append, hA]
  have HH := hide2 (And.intro hs hsu)
  go_enter Tryd.func26, Tryd.ntmps26
  go_wp2_with (first
      | (go_at_call_of 42 (Value.string ⟨l.toArray⟩); refine (minus_at l u false hu hm _ hs).mono ?_; rintro e w' ⟨rfl, rfl⟩)
      | (go_at_call_of 45 (Value.string ⟨u.toArray⟩); refine (cut_at u x p 101 101 rfl h1 _ hsu).mono ?_; rintro e w' ⟨rfl, q1, rfl⟩)
      | (go_at_call_of 45 (Value.string ⟨x.toArray⟩); refine (cut_at x a b 46 46 rfl h2 _ hsx).mono ?_; rintro e w' ⟨rfl, q2, rfl⟩)
      | (go_at_call 43; refine (whole_at a _ h3 _ hsa).mono ?_; rintro e w' ⟨rfl, rfl⟩)
      | (go_at_call_of 46 (Value.string ⟨b.toArray⟩); refine (digits_at b _ h4 _ hsb).mono ?_; rintro e w' ⟨rfl, rfl⟩)
      | (go_at_call_of 42 (Value.string ⟨p.toArray⟩); refine (minus_at p q false hq hng _ hsp).mono ?_; rintro e w' ⟨rfl, rfl⟩)
      | (go_at_call_of 46 (Value.string ⟨q.toArray⟩); refine (digits_at q _ h5 _ hsq).mono ?_; rintro e w' ⟨rfl, rfl⟩)
      | (go_at_call_of 44 (Value.string ⟨q.toArray⟩); refine (number_ok q 99 99 rfl N hN h5 (by decide) (by decide) (by omega) _ (by omega)).mono ?_; rintro e w' ⟨rfl, rfl⟩)
      | (go_at_call 44; refine (number_ok A 999999999999999 999999999999999 rfl V hV hdA (by decide) (by decide) h7 _ hsA).mono ?_; rintro e w' ⟨rfl, rfl⟩)
      | (go_at_call 47; (try rw [hk]); refine (scaled_at V k (val A) hV y hy ⟨by omega, h9⟩ _).mono ?_; rintro e w' ⟨rfl, rfl⟩))
  go_ret2
  refine ⟨rfl, ?_⟩
  exact ⟨_, rfl⟩
end Go.Proofs.YthfmepnlbaifcaaDoor
