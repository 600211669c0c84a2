/-
  Plain arithmetic: the sum by the table of sixteen words is the sum bit by bit.
-/
import Derived.Test.YteeclghhoioapaaDoorMore
namespace Go.Proofs.YteeclghhoioapaaDoor
open Go.RowKit
set_option linter.unusedVariables false

/-- One turn of the rule. -/
def T (y : Nat) : Nat := if y % 2 = 1 then (y / 2) ^^^ 2197175160 else y / 2
theorem xor_mod2 (a b : Nat) : (a ^^^ b) % 2 = (a % 2) ^^^ (b % 2) := by have := Nat.xor_mod_two_pow (a := a) (b := b) (n := 1); simpa using this
theorem xor_div2 (a b : Nat) : (a ^^^ b) / 2 = (a / 2) ^^^ (b / 2) := by have := Nat.xor_div_two_pow (a := a) (b := b) (n := 1); simpa using this
theorem xor_swap (a b c : Nat) : a ^^^ (b ^^^ c) = b ^^^ (a ^^^ c) := by rw [← Nat.xor_assoc, Nat.xor_comm a b, Nat.xor_assoc]
theorem T_xor (a b : Nat) : T (a ^^^ b) = T a ^^^ T b := by
  unfold T
  rw [xor_mod2, xor_div2]
  rcases Nat.mod_two_eq_zero_or_one a with ha | ha <;> rcases Nat.mod_two_eq_zero_or_one b with hb | hb <;> simp only [ha, hb] <;> simp only [Nat.xor_zero, Nat.zero_xor, Nat.xor_self] <;> simp
  · rw [Nat.xor_assoc]
  · rw [Nat.xor_assoc, Nat.xor_assoc, Nat.xor_comm (b / 2)]
  · rw [Nat.xor_assoc, xor_swap 2197175160, Nat.xor_self, Nat.xor_zero]
theorem T_dbl (z : Nat) : T (2 * z) = z := by unfold T; simp
theorem T_bd (y : Nat) (h : y < 4294967296) : T y < 4294967296 := by
  unfold T; split
  · exact Nat.xor_lt_two_pow (n := 32) (by omega) (by omega)
  · omega
/-- So many turns. -/
def Tn : Nat → Nat → Nat
  | 0, y => y
  | n + 1, y => Tn n (T y)
theorem Tn_xor (n a b : Nat) : Tn n (a ^^^ b) = Tn n a ^^^ Tn n b := by
  induction n generalizing a b with
  | zero => rfl
  | succ n ih => simp only [Tn]; rw [T_xor, ih]
theorem Tn_add (n m y : Nat) : Tn (n + m) y = Tn m (Tn n y) := by
  induction n generalizing y with
  | zero => simp [Tn]
  | succ n ih => rw [Nat.add_right_comm]; simp only [Tn]; exact ih _
theorem Tn_shl (n z : Nat) : Tn n (2 ^ n * z) = z := by
  induction n generalizing z with
  | zero => simp [Tn]
  | succ n ih => simp only [Tn]; rw [Nat.pow_succ, Nat.mul_comm (2 ^ n) 2, Nat.mul_assoc, T_dbl, ih]
theorem Tn_bd (n y : Nat) (h : y < 4294967296) : Tn n y < 4294967296 := by
  induction n generalizing y with
  | zero => exact h
  | succ n ih => exact ih _ (T_bd y h)

theorem tab_T : ∀ i : Nat, i < 16 → (tab.getD i 0) = (Tn 4 i : Int) := by decide +kernel
theorem split16 (y : Nat) : y = (y % 16) ^^^ (16 * (y / 16)) := by
  have h := nat_join 4 (16 * (y / 16)) (y % 16) (by omega) (by omega)
  have h2 : (y % 16) ^^^ (16 * (y / 16)) = (16 * (y / 16)) ||| (y % 16) := by
    apply Nat.eq_of_testBit_eq
    intro i
    rw [Nat.testBit_xor, Nat.testBit_or]
    by_cases hi : i < 4
    · have : (16 * (y / 16)).testBit i = false := by
        rw [show 16 * (y / 16) = 2 ^ 4 * (y / 16) from rfl, Nat.testBit_two_pow_mul]; simp; omega
      rw [this]; simp
    · have : (y % 16).testBit i = false := by
        rw [show (16 : Nat) = 2 ^ 4 from rfl, Nat.testBit_mod_two_pow]; simp; omega
      rw [this]; simp
  omega
theorem nib_T (y : Int) (h0 : 0 ≤ y) (h1 : y < 4294967296) : nib y = (Tn 4 y.toNat : Int) := by
  unfold nib
  have ha : (bits .and .u32 y 15).toNat = y.toNat % 16 := by
    rw [u32_and y 15 h0 h1 (by omega) (by omega), Int.toNat_natCast]; exact nat_mask4 _
  rw [ha, tab_T _ (by omega)]
  have hb := Tn_bd 4 (y.toNat % 16) (by omega)
  rw [u32_xor _ _ (by omega) (by omega) (by omega) (by omega), Int.toNat_natCast]
  congr 1
  have := split16 y.toNat
  have e : Tn 4 y.toNat = Tn 4 (y.toNat % 16) ^^^ (y.toNat / 16) := by
    have h2 : Tn 4 (y.toNat % 16 ^^^ 16 * (y.toNat / 16)) = _ := Tn_xor 4 (y.toNat % 16) (16 * (y.toNat / 16))
    rw [← this] at h2
    rw [h2, show (16 : Nat) = 2 ^ 4 from rfl, Tn_shl]
  rw [e, Nat.xor_comm, show (y / 16).toNat = y.toNat / 16 by omega]
theorem stepB_T (x v : Int) (h0 : 0 ≤ x) (h1 : x < 4294967296) (h2 : 0 ≤ v) (h3 : v ≤ 255) : stepB x v = (Tn 8 (x.toNat ^^^ v.toNat) : Int) := by
  unfold stepB
  have a := xor_bd x v h0 h1 h2 (by omega)
  rw [nib_T _ a.1 a.2]
  have hx := u32_xor x v h0 h1 h2 (by omega)
  have hb := Tn_bd 4 (bits .xor .u32 x v).toNat (by omega)
  rw [nib_T _ (by omega) (by omega), Int.toNat_natCast, ← Tn_add, hx, Int.toNat_natCast]

/-- One bit, as the document says it. -/
def refStep (x : Int) (b : Bool) : Int := if ((x % 2 == 1) != b) = true then bits .xor .u32 (x / 2) 2197175160 else x / 2
theorem refStep_T (x : Int) (b : Bool) (h0 : 0 ≤ x) (h1 : x < 4294967296) : refStep x b = (T (x.toNat ^^^ b.toNat) : Int) := by
  unfold refStep T
  have e1 : (x.toNat ^^^ b.toNat) / 2 = x.toNat / 2 := by rw [xor_div2]; cases b <;> simp
  have e2 : (x.toNat ^^^ b.toNat) % 2 = (x.toNat % 2) ^^^ b.toNat := by rw [xor_mod2]; cases b <;> simp
  rw [e1, e2]
  have hx2 : x % 2 = ((x.toNat % 2 : Nat) : Int) := by omega
  rw [hx2]
  have hd : x / 2 = ((x.toNat / 2 : Nat) : Int) := by omega
  rw [u32_xor (x / 2) 2197175160 (by omega) (by omega) (by omega) (by omega), hd]
  rcases Nat.mod_two_eq_zero_or_one x.toNat with h | h <;> rw [h] <;> cases b <;> simp <;> rw [show (max x 0 / 2).toNat = x.toNat / 2 by omega]
theorem refStep_bd (x : Int) (b : Bool) (h0 : 0 ≤ x) (h1 : x < 4294967296) : 0 ≤ refStep x b ∧ refStep x b < 4294967296 := by
  have h : x.toNat ^^^ b.toNat < 4294967296 := Nat.xor_lt_two_pow (n := 32) (by omega) (by cases b <;> simp)
  have := T_bd _ h
  rw [refStep_T x b h0 h1]; omega
/-- The k lowest bits, the lowest first. -/
def bitsN : Nat → Nat → List Bool
  | 0, _ => []
  | k + 1, v => (v % 2 == 1) :: bitsN k (v / 2)
theorem refFold (k v : Nat) (x : Int) (hv : v < 2 ^ k) (h0 : 0 ≤ x) (h1 : x < 4294967296) : (bitsN k v).foldl refStep x = (Tn k (x.toNat ^^^ v) : Int) := by
  induction k generalizing v x with
  | zero => simp [bitsN, Tn]; have : v = 0 := by simpa using hv
            subst this; simp; omega
  | succ k ih =>
    simp only [bitsN, List.foldl_cons]
    have b := refStep_bd x (v % 2 == 1) h0 h1
    rw [ih (v / 2) _ (by rw [Nat.pow_succ] at hv; omega) b.1 b.2]
    simp only [Tn]
    congr 2
    rw [refStep_T x _ h0 h1, Int.toNat_natCast]
    have hv2 : v = (v % 2 == 1).toNat ^^^ (2 * (v / 2)) := by
      have h := nat_join 1 (2 * (v / 2)) (v % 2) (by omega) (by omega)
      have h3 : (v % 2 == 1).toNat = v % 2 := by rcases Nat.mod_two_eq_zero_or_one v with h | h <;> simp [h]
      rw [h3]
      have h4 : (v % 2) ^^^ (2 * (v / 2)) = (2 * (v / 2)) ||| (v % 2) := by
        apply Nat.eq_of_testBit_eq
        intro i
        rw [Nat.testBit_xor, Nat.testBit_or]
        by_cases hi : i < 1
        · have : (2 * (v / 2)).testBit i = false := by
            rw [show 2 * (v / 2) = 2 ^ 1 * (v / 2) from rfl, Nat.testBit_two_pow_mul]; simp; omega
          rw [this]; simp
        · have : (v % 2).testBit i = false := by
            rw [show v % 2 = v % 2 ^ 1 from rfl, Nat.testBit_mod_two_pow]; simp; omega
          rw [this]; simp
      omega
    have : T (x.toNat ^^^ v) = T (x.toNat ^^^ (v % 2 == 1).toNat) ^^^ (v / 2) := by
      have h : T ((x.toNat ^^^ (v % 2 == 1).toNat) ^^^ (2 * (v / 2))) = _ := T_xor _ _
      rw [T_dbl, Nat.xor_assoc, ← hv2] at h
      exact h
    rw [this]
/-- All bits of the bytes. -/
def bitsOf (zs : List Int) : List Bool := zs.flatMap fun z => bitsN 8 z.toNat
theorem refFold_all (zs : List Int) (x : Int) (hz : Octets zs) (h0 : 0 ≤ x) (h1 : x < 4294967296) : (bitsOf zs).foldl refStep x = zs.foldl stepB x := by
  induction zs generalizing x with
  | nil => rfl
  | cons v zs ih =>
    have hv := hz 0
    simp at hv
    have b := stepB_bd x v h0 h1 hv.1 hv.2
    simp only [bitsOf, List.flatMap_cons, List.foldl_append, List.foldl_cons]
    rw [refFold 8 v.toNat x (by show _ < 256; omega) h0 h1, ← stepB_T x v h0 h1 hv.1 hv.2]
    exact ih _ (fun i => by simpa using hz (i + 1)) b.1 b.2
theorem bitsN_length (k v : Nat) : (bitsN k v).length = k := by
  induction k generalizing v with
  | zero => rfl
  | succ k ih => simp [bitsN, ih]
theorem bitsOf_length (zs : List Int) : (bitsOf zs).length = 8 * zs.length := by
  induction zs with
  | nil => rfl
  | cons v zs ih => simp only [bitsOf, List.flatMap_cons, List.length_append, bitsN_length, List.length_cons] at *; omega
/-- The document's sum is the code's. -/
theorem ref_eq (c : Int) (zs : List Int) (hz : Octets zs) (h0 : 0 ≤ c) (h1 : c < 4294967296) : flip ((bitsOf zs).foldl refStep (flip c)) = moreF c zs := by
  have fb := flip_bd c h0 h1
  rw [refFold_all zs _ hz fb.1 fb.2]; rfl
end Go.Proofs.YteeclghhoioapaaDoor
