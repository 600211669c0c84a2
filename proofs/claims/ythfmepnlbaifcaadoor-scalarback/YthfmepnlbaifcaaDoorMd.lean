/-
  What a text of a number is made of: the scanner's way and the document's way are one.
-/
import Derived.Lib.ParseIntB
import Derived.Lib.Atoi
namespace Go.Proofs.YthfmepnlbaifcaaDoor
set_option linter.unusedVariables false
/-- a digit -/
def dg (c : UInt8) : Bool := decide (48 ≤ c.toNat ∧ c.toNat ≤ 57)
/-- the number that digits spell, behind another -/
def valF (n : Nat) : List UInt8 → Nat
  | [] => n
  | c :: r => valF (10 * n + (c.toNat - 48)) r
def val (l : List UInt8) : Nat := valF 0 l
theorem valF_le : ∀ (l : List UInt8) (n : Nat), n ≤ valF n l
  | [], n => Nat.le_refl _
  | c :: r, n => by
    have h := valF_le r (10 * n + (c.toNat - 48))
    show n ≤ valF (10 * n + (c.toNat - 48)) r
    omega
theorem valF_append : ∀ (a b : List UInt8) (n : Nat), valF n (a ++ b) = valF (valF n a) b
  | [], b, n => rfl
  | c :: r, b, n => valF_append r b (10 * n + (c.toNat - 48))
/-- digits, one at least -/
def dgs (l : List UInt8) : Bool := l.all dg && !l.isEmpty
/-- digits without a nought ahead -/
def whl (l : List UInt8) : Bool := dgs l && (decide (l.head? ≠ some 48) || decide (l.length = 1))
structure Nm where
  minus : Bool
  whole : List UInt8
  rest : List UInt8
  power : Int
def unM (l : List UInt8) : List UInt8 := if l.head? = some 45 then l.tail else l
def hasM (l : List UInt8) : Bool := decide (l.head? = some 45)
def isP (p : List UInt8) : Bool := dgs (unM p) && decide ((unM p).length ≤ 2)
def powV (p : List UInt8) : Int := if hasM p then -(val (unM p) : Int) else val (unM p)
def wholeOf (r : List UInt8) : List UInt8 := if r.head? = some 48 then [48] else r.takeWhile dg
/-- behind the whole part's end -/
def scan4 (m : Bool) (a b : List UInt8) : List UInt8 → Option Nm
  | [] => some ⟨m, a, b, 0⟩
  | c :: p => if c = 101 ∧ isP p = true then some ⟨m, a, b, powV p⟩ else none
def scan3 (m : Bool) (a r3 : List UInt8) : Option Nm :=
  if r3.takeWhile dg = [] then none else scan4 m a (r3.takeWhile dg) (r3.dropWhile dg)
def scan2 (m : Bool) (a : List UInt8) : List UInt8 → Option Nm
  | [] => if a ≠ [] ∧ ¬ (m = true ∧ a = [48]) then some ⟨m, a, [], 0⟩ else none
  | c :: r3 => if a = [] ∨ c ≠ 46 then none else scan3 m a r3
def scan1 (m : Bool) (r : List UInt8) : Option Nm := scan2 m (wholeOf r) (r.drop (wholeOf r).length)
def scanF (l : List UInt8) : Option Nm := scan1 (hasM l) (unM l)

theorem dgs_iff {l : List UInt8} : dgs l = true ↔ (∀ c ∈ l, dg c = true) ∧ l ≠ [] := by
  unfold dgs
  rw [Bool.and_eq_true, List.all_eq_true]
  cases l <;> simp
theorem takeWhile_all {l r : List UInt8} (h : ∀ c ∈ l, dg c = true) (hr : ∀ c, r.head? = some c → dg c = false) : (l ++ r).takeWhile dg = l ∧ (l ++ r).dropWhile dg = r := by
  induction l with
  | nil =>
    cases r with
    | nil => exact ⟨rfl, rfl⟩
    | cons c r => have := hr c rfl; simp [this]
  | cons c l ih =>
    have hc := h c (by simp)
    obtain ⟨h1, h2⟩ := ih (fun x hx => h x (by simp [hx]))
    simp [hc, h1, h2]
theorem wholeOf_ok {a r : List UInt8} (ha : whl a = true) (hr : ∀ c, r.head? = some c → dg c = false) : wholeOf (a ++ r) = a ∧ (a ++ r).drop a.length = r := by
  refine ⟨?_, by simp⟩
  unfold whl at ha
  rw [Bool.and_eq_true, dgs_iff] at ha
  obtain ⟨⟨h1, h2⟩, h3⟩ := ha
  cases a with
  | nil => exact absurd rfl h2
  | cons c a =>
    unfold wholeOf
    by_cases hc : c = 48
    · subst hc
      simp only [List.head?_cons, ne_eq, not_true_eq_false, decide_false, Bool.false_or, decide_eq_true_eq, List.length_cons] at h3
      have : a = [] := List.length_eq_zero_iff.1 (by omega)
      subst this
      simp
    · rw [if_neg (by simpa using hc)]
      exact (takeWhile_all h1 hr).1
theorem wholeOf_whl {r : List UInt8} (h : wholeOf r ≠ []) : whl (wholeOf r) = true ∧ r = wholeOf r ++ r.drop (wholeOf r).length := by
  unfold wholeOf at h ⊢
  cases r with
  | nil => simp at h
  | cons c r =>
    by_cases hc : c = 48
    · subst hc
      simp [whl, dgs, dg]
    · rw [if_neg (by simpa using hc)] at h ⊢
      constructor
      · unfold whl
        rw [Bool.and_eq_true, dgs_iff]
        refine ⟨⟨fun x hx => ?_, h⟩, ?_⟩
        · have := List.all_takeWhile (p := dg) (l := c :: r)
          rw [List.all_eq_true] at this
          exact this x hx
        · by_cases hd : dg c = true
          · simp [List.takeWhile, hd, hc]
          · simp [List.takeWhile, hd] at h
      · have := List.takeWhile_append_dropWhile (p := dg) (l := c :: r)
        have h2 : (c :: r).drop ((c :: r).takeWhile dg).length = (c :: r).dropWhile dg := by
          have h3 := congrArg (List.drop ((c :: r).takeWhile dg).length) this
          rw [List.drop_left] at h3
          exact h3.symm
        rw [h2, this]
/-- the shape of an int -/
def ShI (l : List UInt8) (n : Nm) : Prop := n.minus = hasM l ∧ n.whole = unM l ∧ n.rest = [] ∧ n.power = 0 ∧ whl (unM l) = true ∧ ¬ (hasM l = true ∧ unM l = [48])
/-- the shape of a real -/
def ShR (l : List UInt8) (n : Nm) : Prop := n.minus = hasM l ∧ whl n.whole = true ∧ dgs n.rest = true ∧
  ((unM l = n.whole ++ 46 :: n.rest ∧ n.power = 0) ∨ ∃ p, unM l = n.whole ++ 46 :: (n.rest ++ 101 :: p) ∧ isP p = true ∧ n.power = powV p)
theorem scan2_shape {m : Bool} {r : List UInt8} {n : Nm} (h : scan2 m (wholeOf r) (r.drop (wholeOf r).length) = some n) :
    (n = ⟨m, r, [], 0⟩ ∧ whl r = true ∧ ¬ (m = true ∧ r = [48])) ∨
    (n.minus = m ∧ whl n.whole = true ∧ dgs n.rest = true ∧ ((r = n.whole ++ 46 :: n.rest ∧ n.power = 0) ∨ ∃ p, r = n.whole ++ 46 :: (n.rest ++ 101 :: p) ∧ isP p = true ∧ n.power = powV p)) := by
  rcases hd : r.drop (wholeOf r).length with _ | ⟨c, r3⟩
  · rw [hd] at h
    simp only [scan2] at h
    split at h
    · rename_i hc
      obtain ⟨hw, hr⟩ := wholeOf_whl hc.1
      rw [hd, List.append_nil] at hr
      rw [← hr] at h hc hw
      exact .inl ⟨(Option.some.inj h).symm, hw, hc.2⟩
    · cases h
  · rw [hd] at h
    simp only [scan2] at h
    split at h
    · cases h
    · rename_i hc
      have hc1 : wholeOf r ≠ [] := fun e => hc (.inl e)
      have hc2 : c = 46 := Classical.byContradiction fun e => hc (.inr e)
      subst hc2
      obtain ⟨hw, hr⟩ := wholeOf_whl hc1
      rw [hd] at hr
      unfold scan3 at h
      split at h
      · cases h
      · rename_i hb
        have hD : dgs (r3.takeWhile dg) = true := by
          rw [dgs_iff]
          refine ⟨fun x hx => ?_, hb⟩
          have := List.all_takeWhile (p := dg) (l := r3)
          rw [List.all_eq_true] at this
          exact this x hx
        have h3 := List.takeWhile_append_dropWhile (p := dg) (l := r3)
        rcases h4 : r3.dropWhile dg with _ | ⟨c, p⟩
        · rw [h4] at h h3
          rw [List.append_nil] at h3
          cases h
          exact .inr ⟨rfl, hw, hD, .inl ⟨by rw [h3]; exact hr, rfl⟩⟩
        · rw [h4] at h h3
          simp only [scan4] at h
          split at h
          · rename_i hp
            cases h
            obtain ⟨rfl, hp⟩ := hp
            exact .inr ⟨rfl, hw, hD, .inr ⟨p, by rw [h3]; exact hr, hp, rfl⟩⟩
          · cases h
theorem scan_shape {l : List UInt8} {n : Nm} (h : scanF l = some n) : ShI l n ∨ ShR l n := by
  rcases scan2_shape h with ⟨rfl, h1, h2⟩ | ⟨h1, h2, h3, h4⟩
  · exact .inl ⟨rfl, rfl, rfl, rfl, h1, h2⟩
  · exact .inr ⟨h1, h2, h3, h4⟩
theorem ShI.scan {l : List UInt8} {n : Nm} (h : ShI l n) : scanF l = some n := by
  obtain ⟨m, a, b, p⟩ := n
  obtain ⟨h1, h2, h3, h4, h5, h6⟩ := h
  simp only at h1 h2 h3 h4
  subst h1 h2 h3 h4
  unfold scanF scan1
  have h7 := wholeOf_ok (r := []) h5 (by simp)
  rw [List.append_nil] at h7
  rw [h7.1, List.drop_length]
  have h8 : unM l ≠ [] := by
    intro e
    rw [e] at h5
    simp [whl, dgs] at h5
  simp only [scan2]
  rw [if_pos ⟨h8, h6⟩]
theorem ShR.scan {l : List UInt8} {n : Nm} (h : ShR l n) : scanF l = some n := by
  obtain ⟨m, a, b, p⟩ := n
  obtain ⟨h1, h2, h3, h4⟩ := h
  simp only at h1 h2 h3 h4
  subst h1
  have ha : a ≠ [] := by
    intro e
    rw [e] at h2
    simp [whl, dgs] at h2
  have hb := dgs_iff.1 h3
  unfold scanF scan1
  rcases h4 with ⟨h4, rfl⟩ | ⟨q, h4, hq, rfl⟩
  · rw [h4]
    have h7 := wholeOf_ok (r := 46 :: b) h2 (by intro c hc; simp at hc; subst hc; decide)
    rw [h7.1, h7.2]
    have h8 := takeWhile_all (r := []) hb.1 (by simp)
    rw [List.append_nil] at h8
    simp only [scan2]
    rw [if_neg (by simp [ha])]
    unfold scan3
    rw [h8.1, h8.2, if_neg hb.2]
    rfl
  · rw [h4]
    have h7 := wholeOf_ok (r := 46 :: (b ++ 101 :: q)) h2 (by intro c hc; simp at hc; subst hc; decide)
    rw [h7.1, h7.2]
    have h8 := takeWhile_all (r := 101 :: q) hb.1 (by intro c hc; simp at hc; subst hc; decide)
    simp only [scan2]
    rw [if_neg (by simp [ha])]
    unfold scan3
    rw [h8.1, h8.2, if_neg hb.2]
    simp only [scan4]
    rw [if_pos ⟨by first | rfl | trivial, hq⟩]
/-- what stands ahead of and behind a byte -/
def cutB (c : UInt8) : List UInt8 → Option (List UInt8 × List UInt8)
  | [] => none
  | x :: r => if x = c then some ([], r) else (cutB c r).map fun q => (x :: q.1, q.2)
theorem cutB_some {c : UInt8} : ∀ {l x y : List UInt8}, cutB c l = some (x, y) → l = x ++ c :: y
  | [], x, y, h => by cases h
  | z :: r, x, y, h => by
    rw [cutB] at h
    split at h
    · rename_i e
      cases h
      rw [e]; rfl
    · obtain ⟨q, hq, e⟩ := Option.map_eq_some_iff.1 h
      cases e
      have := cutB_some (x := q.1) (y := q.2) hq
      rw [this]; rfl
theorem cutB_mem {c : UInt8} : ∀ {x y : List UInt8}, c ∉ x → cutB c (x ++ c :: y) = some (x, y)
  | [], y, h => by simp [cutB]
  | z :: x, y, h => by
    have h1 : ¬ z = c := fun e => h (by simp [e])
    have h2 : c ∉ x := fun e => h (by simp [e])
    rw [List.cons_append, cutB, if_neg h1, cutB_mem h2]
    rfl
theorem cutB_none {c : UInt8} : ∀ {l : List UInt8}, c ∉ l → cutB c l = none
  | [], h => rfl
  | z :: l, h => by
    have h1 : ¬ z = c := fun e => h (by simp [e])
    have h2 : c ∉ l := fun e => h (by simp [e])
    rw [cutB, if_neg h1, cutB_none h2]
    rfl
/-- the document's way: the parts of a real -/
def decP (l : List UInt8) : Option Nm :=
  match cutB 101 (unM l) with
  | none => match cutB 46 (unM l) with
    | none => none
    | some (a, b) => if whl a = true ∧ dgs b = true then some ⟨hasM l, a, b, 0⟩ else none
  | some (x, p) => match cutB 46 x with
    | none => none
    | some (a, b) => if whl a = true ∧ dgs b = true ∧ isP p = true then some ⟨hasM l, a, b, powV p⟩ else none
theorem decP_shape {l : List UInt8} {n : Nm} (h : decP l = some n) : ShR l n := by
  unfold decP at h
  split at h
  · split at h
    · cases h
    · rename_i a b hab
      split at h
      · rename_i hc
        cases h
        exact ⟨rfl, hc.1, hc.2, .inl ⟨cutB_some hab, rfl⟩⟩
      · cases h
  · rename_i x p hx
    split at h
    · cases h
    · rename_i a b hab
      split at h
      · rename_i hc
        cases h
        refine ⟨rfl, hc.1, hc.2.1, .inr ⟨p, ?_, hc.2.2, rfl⟩⟩
        rw [cutB_some hx, cutB_some hab]
        simp
      · cases h
theorem dg_not {l : List UInt8} {c : UInt8} (hc : dg c = false) (h : ∀ x ∈ l, dg x = true) : c ∉ l := fun e => by
  have := h c e
  rw [hc] at this
  cases this
theorem whl_dg {l : List UInt8} (h : whl l = true) : ∀ x ∈ l, dg x = true := by
  unfold whl at h
  rw [Bool.and_eq_true, dgs_iff] at h
  exact h.1.1
theorem ShR.decP {l : List UInt8} {n : Nm} (h : ShR l n) : decP l = some n := by
  obtain ⟨m, a, b, p⟩ := n
  obtain ⟨h1, h2, h3, h4⟩ := h
  simp only at h1 h2 h3 h4
  subst h1
  have hb := (dgs_iff.1 h3).1
  have ha := whl_dg h2
  have e1 : cutB 46 (a ++ 46 :: b) = some (a, b) := cutB_mem (dg_not (by decide) ha)
  unfold YthfmepnlbaifcaaDoor.decP
  rcases h4 with ⟨h4, rfl⟩ | ⟨q, h4, hq, rfl⟩
  · rw [h4, cutB_none (c := 101) (l := a ++ 46 :: b) (by
      intro e
      rw [List.mem_append, List.mem_cons] at e
      rcases e with e | e | e
      · exact dg_not (by decide) ha e
      · exact absurd e (by decide)
      · exact dg_not (by decide) hb e)]
    simp only [e1]
    rw [if_pos ⟨h2, h3⟩]
  · rw [h4, show a ++ 46 :: (b ++ 101 :: q) = (a ++ 46 :: b) ++ 101 :: q by simp, cutB_mem (c := 101) (x := a ++ 46 :: b) (by
      intro e
      rw [List.mem_append, List.mem_cons] at e
      rcases e with e | e | e
      · exact dg_not (by decide) ha e
      · exact absurd e (by decide)
      · exact dg_not (by decide) hb e)]
    simp only [e1]
    rw [if_pos ⟨h2, h3, hq⟩]
/-- the document's way: the parts of an int -/
def intP (l : List UInt8) : Option Nm := if whl (unM l) = true ∧ ¬ (hasM l = true ∧ unM l = [48]) then some ⟨hasM l, unM l, [], 0⟩ else none
theorem intP_shape {l : List UInt8} {n : Nm} (h : intP l = some n) : ShI l n := by
  unfold intP at h
  split at h
  · rename_i hc
    cases h
    exact ⟨rfl, rfl, rfl, rfl, hc.1, hc.2⟩
  · cases h
theorem scan_ways (l : List UInt8) : scanF l = match intP l with | some n => some n | none => decP l := by
  rcases hi : intP l with _ | n
  · rcases hd : decP l with _ | n
    · rcases hs : scanF l with _ | n
      · rfl
      · rcases scan_shape hs with h | h
        · obtain ⟨h1, h2, h3, h4, h5, h6⟩ := h
          rw [intP, if_pos ⟨h5, h6⟩] at hi
          cases hi
        · rw [h.decP] at hd
          cases hd
    · exact (decP_shape hd).scan
  · exact (intP_shape hi).scan
theorem intP_rest {l : List UInt8} {n : Nm} (h : intP l = some n) : n.rest = [] := (intP_shape h).2.2.1
theorem decP_rest {l : List UInt8} {n : Nm} (h : decP l = some n) : n.rest ≠ [] := (dgs_iff.1 (decP_shape h).2.2.1).2
end Go.Proofs.YthfmepnlbaifcaaDoor
