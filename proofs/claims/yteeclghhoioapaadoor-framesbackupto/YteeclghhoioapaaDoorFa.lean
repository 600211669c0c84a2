/-
  Plain facts on numbers laid as bytes.
-/
import Derived.Test.YteeclghhoioapaaDoorPlain
namespace Go.Proofs.YteeclghhoioapaaDoor
set_option linter.unusedVariables false
/-- A number in so many bytes, the highest first. -/
def digs : Nat → Int → List Int
  | 0, _ => []
  | w + 1, n => n / 256 ^ w % 256 :: digs w n
/-- The number that bytes tell. -/
def val (l : List Int) : Int := l.foldl (fun a x => a * 256 + x) 0

theorem digs_length (w : Nat) (n : Int) : (digs w n).length = w := by
  induction w with
  | zero => rfl
  | succ w ih => simp [digs, ih]
theorem val_from (l : List Int) (a : Int) : l.foldl (fun a x => a * 256 + x) a = a * 256 ^ l.length + val l := by
  induction l generalizing a with
  | nil => simp [val]
  | cons x l ih =>
    simp only [List.foldl_cons, val, List.length_cons]
    rw [ih, ih (0 * 256 + x), Int.pow_succ]
    have : (a * 256 + x) * 256 ^ l.length = a * (256 ^ l.length * 256) + x * 256 ^ l.length := by
      rw [Int.add_mul, Int.mul_assoc, Int.mul_comm 256]
    rw [this, Int.zero_mul, Int.zero_add]; omega
theorem val_cons (x : Int) (l : List Int) : val (x :: l) = x * 256 ^ l.length + val l := by
  have := val_from l (0 * 256 + x)
  simpa [val] using this
theorem val_snoc (l : List Int) (x : Int) : val (l ++ [x]) = val l * 256 + x := by simp [val]
theorem val_append (a b : List Int) : val (a ++ b) = val a * 256 ^ b.length + val b := by
  unfold val; rw [List.foldl_append, val_from]; rfl
theorem pow256_pos (w : Nat) : (0 : Int) < 256 ^ w := Int.pow_pos (by decide)
theorem mul_lt (P s r : Int) (h0 : 0 ≤ r) (h1 : r < P) (h2 : 0 ≤ s) (h3 : s ≤ 255) : 0 ≤ s * P + r ∧ s * P + r < P * 256 := by
  have a : 0 ≤ s * P := Int.mul_nonneg h2 (by omega)
  have b : s * P ≤ 255 * P := Int.mul_le_mul_of_nonneg_right h3 (by omega)
  omega
theorem digs_val (w : Nat) (n : Int) : val (digs w n) = n % 256 ^ w := by
  induction w with
  | zero => simp [digs, val]
  | succ w ih =>
    rw [digs, val_cons, digs_length, ih, Int.pow_succ]
    have h := pow256_pos w
    obtain ⟨P, hP⟩ : ∃ P : Int, 256 ^ w = P := ⟨_, rfl⟩
    rw [hP] at h ⊢
    have hq := Int.mul_ediv_add_emod n P
    have hs := Int.mul_ediv_add_emod (n / P) 256
    have b := mul_lt P (n / P % 256) (n % P) (Int.emod_nonneg _ (by omega)) (Int.emod_lt_of_pos _ h) (by omega) (by omega)
    have e : n = (n / P % 256 * P + n % P) + P * 256 * (n / P / 256) := by
      have : P * (n / P) = P * (256 * (n / P / 256)) + P * (n / P % 256) := by rw [← Int.mul_add, hs]
      rw [Int.mul_assoc, Int.mul_comm (n / P % 256) P]; omega
    have key : ∀ a : Int, 0 ≤ a → a < P * 256 → n = a + P * 256 * (n / P / 256) → a = n % (P * 256) := fun a a0 a1 he => by
      rw [he, Int.add_mul_emod_self_left, Int.emod_eq_of_lt a0 a1]
    exact key _ b.1 b.2 e
theorem Octets.cons {x : Int} {l : List Int} (h : Octets (x :: l)) : (0 ≤ x ∧ x ≤ 255) ∧ Octets l := ⟨h 0, fun i => h (i + 1)⟩
theorem Octets.of_cons {x : Int} {l : List Int} (h0 : 0 ≤ x) (h1 : x ≤ 255) (h : Octets l) : Octets (x :: l)
  | 0 => ⟨h0, h1⟩
  | i + 1 => h i
theorem digs_octets (w : Nat) (n : Int) : Octets (digs w n) := by
  induction w with
  | zero => intro i; simp [digs]
  | succ w ih => exact Octets.of_cons (by omega) (by omega) ih
theorem val_bd (l : List Int) (h : Octets l) : 0 ≤ val l ∧ val l < 256 ^ l.length := by
  induction l with
  | nil => simp [val]
  | cons x l ih =>
    obtain ⟨hx, hl⟩ := h.cons
    rw [val_cons, List.length_cons, Int.pow_succ]
    exact mul_lt _ _ _ (ih hl).1 (ih hl).2 hx.1 hx.2
theorem val_inj (a b : List Int) (ha : Octets a) (hb : Octets b) (hl : a.length = b.length) (h : val a = val b) : a = b := by
  induction a generalizing b with
  | nil => cases b with
    | nil => rfl
    | cons y b => simp at hl
  | cons x a ih => cases b with
    | nil => simp at hl
    | cons y b =>
      obtain ⟨hx, ha'⟩ := ha.cons
      obtain ⟨hy, hb'⟩ := hb.cons
      have hl' : a.length = b.length := by simpa using hl
      rw [val_cons, val_cons, hl'] at h
      have ba := val_bd a ha'
      have bb := val_bd b hb'
      rw [hl'] at ba
      obtain ⟨P, hP⟩ : ∃ P : Int, 256 ^ b.length = P := ⟨_, rfl⟩
      rw [hP] at h ba bb
      have hxy : x = y := by
        rcases Int.lt_trichotomy x y with g | g | g
        · have := Int.mul_le_mul_of_nonneg_right (show x + 1 ≤ y by omega) (show 0 ≤ P by omega)
          rw [Int.add_mul] at this; omega
        · exact g
        · have := Int.mul_le_mul_of_nonneg_right (show y + 1 ≤ x by omega) (show 0 ≤ P by omega)
          rw [Int.add_mul] at this; omega
      subst hxy
      rw [ih b ha' hb' hl' (by omega)]
theorem val_digs (l : List Int) (h : Octets l) : digs l.length (val l) = l := by
  have b := val_bd l h
  exact val_inj _ _ (digs_octets _ _) h (digs_length _ _) (by rw [digs_val, Int.emod_eq_of_lt b.1 b.2])
theorem digs_back (w : Nat) (n : Int) (h0 : 0 ≤ n) (h1 : n < 256 ^ w) : val (digs w n) = n := by
  rw [digs_val, Int.emod_eq_of_lt h0 h1]

/-- The bytes of a text. -/
def sb (s : ByteArray) : List Int := s.data.toList.map fun b => (b.toNat : Int)
theorem sb_length (s : ByteArray) : (sb s).length = s.size := by rw [sb, List.length_map]; rfl
theorem sb_octets (s : ByteArray) : Octets (sb s) := fun i => by
  simp only [sb, List.getD, List.getElem?_map]
  cases s.data.toList[i]? with
  | none => simp
  | some b =>
    have := b.toNat_lt
    show 0 ≤ (b.toNat : Int) ∧ (b.toNat : Int) ≤ 255
    omega
theorem bytes_ext {a b : ByteArray} (h : a.data.toList = b.data.toList) : a = b := by
  cases a; cases b; simp at h; simp [h]
theorem bstr_sb (s : ByteArray) : bstr (sb s) = s := by
  apply bytes_ext
  rw [bstr_data, sb, List.map_map]
  conv => rhs; rw [← List.map_id s.data.toList]
  apply List.map_congr_left
  intro b _
  simp
theorem sb_bstr (zs : List Int) (h : Octets zs) : sb (bstr zs) = zs := by
  rw [sb, bstr_data, List.map_map]
  conv => rhs; rw [← List.map_id zs]
  apply List.map_congr_left
  intro z hz
  obtain ⟨i, hi, rfl⟩ := List.getElem_of_mem hz
  have := h i
  rw [List.getD_eq_getElem?_getD, List.getElem?_eq_getElem hi] at this
  have h2 : 0 ≤ zs[i] ∧ zs[i] ≤ 255 := this
  show ((UInt8.ofNat zs[i].toNat).toNat : Int) = zs[i]
  rw [UInt8.toNat_ofNat']
  omega
theorem bstr_size (zs : List Int) : (bstr zs).size = zs.length := by
  have := congrArg List.length (bstr_data zs)
  rw [List.length_map] at this
  exact this
end Go.Proofs.YteeclghhoioapaaDoor
