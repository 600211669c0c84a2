/-
  areNumbers and may: which messages may be.
-/
import Derived.Test.YteeclghhoioapaaDoorFc
import Derived.Test.YteeclghhoioapaaDoorParts
import Derived.Deep.QuietTactic
namespace Go.Proofs.YteeclghhoioapaaDoor
open Go.RowKit
set_option linter.unusedVariables false
set_option linter.unusedSimpArgs false
set_option maxRecDepth 100000
/-- A message as the model holds it. -/
def mv (m : Ms) : Value := .agg #[.int .i64 m.kind, .string m.name, .int .i64 m.ver, .int .i64 m.frm, .int .i64 m.non, .int .i64 m.err, .string m.text]
theorem ret_bool {a b : Bool} (h : a = b) : Ending.returned (.bool a) = .returned (.bool b) := by rw [h]
theorem all_take (ns : List Int) (n : Nat) (hn : ns.length = n) (h : ∀ j, j < n → num (ns.getD j 0) = true) : true = ns.all num := by
  symm
  rw [List.all_eq_true]
  intro x hx
  obtain ⟨j, hj, rfl⟩ := List.getElem_of_mem hx
  have := h j (by omega)
  simpa [List.getD, hj] using this
theorem all_not (ns : List Int) (k : Nat) (hk : k < ns.length) (h : num (ns.getD k 0) = false) : false = ns.all num := by
  symm
  rw [List.all_eq_false]
  refine ⟨ns[k], List.getElem_mem hk, ?_⟩
  have e : ns.getD k 0 = ns[k] := by simp [List.getD, hk]
  rw [← e, h]; decide
set_option maxHeartbeats 1000000 in
theorem are_any (x : Addr) (n cap : Nat) (ns : List Int) (w : World) (hn : ns.length = n) (hB : ∀ j, j < ns.length → w.cell? (x.add j) = some (.int .i64 (ns.getD j 0))) (hl : n ≤ 1000) :
    Calls Tryd.prog 40 #[.slice (some x) n cap] w fun e w' => e = .returned (.bool (ns.all num)) ∧ w' = w := by
  have HN : Hid (ns.length = n) := hn
  have HB : Hid (∀ j, j < ns.length → w.cell? (x.add j) = some (.int .i64 (ns.getD j 0))) := hB
  clear hB hn
  go_enter Tryd.func40, Tryd.ntmps40
  go_wp2
  go_loop [7] (fun i => ∃ k : Nat, k ≤ n ∧ i = .int .i64 k ∧ ∀ j, j < k → num (ns.getD j 0) = true) (fun i => n - (intOf i).toNat)
  case atStart => exact ⟨0, Nat.zero_le _, rfl, fun j hj => by omega⟩
  case round =>
    obtain ⟨k, hk, rfl, hne⟩ := hrel
    by_cases hlt : k < n
    · have hc := HB.out k (by rw [HN.out]; exact hlt)
      have HR : Hid (num (ns.getD k 0) = false → false = ns.all num) := all_not ns k (by rw [HN.out]; exact hlt)
      have HS : Hid (num (ns.getD k 0) = true → ∀ j, j < k + 1 → num (ns.getD j 0) = true) := fun h j hj => by
        rcases Nat.lt_or_ge j k with g | g
        · exact hne j g
        · have : j = k := by omega
          rw [this]; exact h
      obtain ⟨v, hv⟩ : ∃ v, ns.getD k 0 = v := ⟨_, rfl⟩
      rw [hv] at hc HR HS
      clear hne hv
      by_cases h0 : v < 0
      · go_wp2
        go_ret
        exact ⟨ret_bool (HR.out (by simp [num]; omega)), rfl⟩
      · by_cases h1 : v > 4611686018427387904
        · go_wp2
          go_ret
          exact ⟨ret_bool (HR.out (by simp [num]; omega)), rfl⟩
        · go_wp2
          go_round
          case rel => exact ⟨k + 1, by omega, by go_num, HS.out (by simp [num]; omega)⟩
          case measure => simp [intOf]; omega
    · go_wp2
      go_ret
      exact ⟨ret_bool (all_take ns n HN.out (fun j hj => hne j (by omega))), rfl⟩

theorem ints_new (w : World) (ns : List Int) (t : TypeId) (B : Nat) (hB : B = w.heap.size) : ∀ j, j < ns.length → (w.alloc (.cells (ns.map (Value.int .i64)).toArray t)).cell? ((⟨B, 0, none⟩ : Addr).add j) = some (.int .i64 (ns.getD j 0)) := fun j hj => by
  subst hB
  refine World.news_of_block (heap_alloc_new w _) j _ ?_
  simp [hj]
theorem are1 (w : World) (t : TypeId) (B : Nat) (a : Int) (hB : B = w.heap.size) :
    Calls Tryd.prog 40 #[.slice (some ⟨B, 0, none⟩) 1 1] (w.alloc (.cells #[.int .i64 a] t)) fun e w' => e = .returned (.bool (num a)) ∧ w' = w.alloc (.cells #[.int .i64 a] t) := by
  refine (are_any ⟨B, 0, none⟩ 1 1 [a] _ rfl (ints_new w [a] t B hB) (by decide)).mono ?_
  rintro e w' ⟨rfl, rfl⟩
  exact ⟨ret_bool (by simp), rfl⟩
theorem are2 (w : World) (t : TypeId) (B : Nat) (a b : Int) (hB : B = w.heap.size) :
    Calls Tryd.prog 40 #[.slice (some ⟨B, 0, none⟩) 2 2] (w.alloc (.cells #[.int .i64 a, .int .i64 b] t)) fun e w' => e = .returned (.bool (num a && num b)) ∧ w' = w.alloc (.cells #[.int .i64 a, .int .i64 b] t) := by
  refine (are_any ⟨B, 0, none⟩ 2 2 [a, b] _ rfl (ints_new w [a, b] t B hB) (by decide)).mono ?_
  rintro e w' ⟨rfl, rfl⟩
  exact ⟨ret_bool (by simp), rfl⟩
theorem are3 (w : World) (t : TypeId) (B : Nat) (a b c : Int) (hB : B = w.heap.size) :
    Calls Tryd.prog 40 #[.slice (some ⟨B, 0, none⟩) 3 3] (w.alloc (.cells #[.int .i64 a, .int .i64 b, .int .i64 c] t)) fun e w' => e = .returned (.bool (num a && num b && num c)) ∧ w' = w.alloc (.cells #[.int .i64 a, .int .i64 b, .int .i64 c] t) := by
  refine (are_any ⟨B, 0, none⟩ 3 3 [a, b, c] _ rfl (ints_new w [a, b, c] t B hB) (by decide)).mono ?_
  rintro e w' ⟨rfl, rfl⟩
  exact ⟨ret_bool (by simp [Bool.and_assoc]), rfl⟩
theorem size_zero (s : ByteArray) : s.toList.isEmpty = decide (s.size = 0) := by
  rw [ByteArray.toList_eq]
  cases s with | mk d => cases d with | mk l => cases l <;> simp [ByteArray.size]
theorem emp_size (s : ByteArray) : s = ByteArray.empty ↔ s.size = 0 := by
  constructor
  · rintro rfl; rfl
  · intro h
    cases s with | mk d => cases d with | mk l => cases l with
      | nil => rfl
      | cons a l => simp [ByteArray.size] at h
set_option maxHeartbeats 2000000 in
theorem may_any (m : Ms) (w : World) (h1 : m.name.size ≤ maxLen) (h2 : m.text.size ≤ maxLen) :
    Calls Tryd.prog 28 #[mv m] w fun e w' => e = .returned (.bool (okM m)) ∧ Below w.heap.size w w' := by
  obtain ⟨kind, name, ver, frm, non, err, text⟩ := m
  unfold maxLen at h1 h2
  have hz : Hid (name = ByteArray.empty ↔ name.size = 0) := emp_size name
  simp only [mv] at *
  have b1 : ∀ cs t, Below w.heap.size w (w.alloc (.cells cs t)) := fun cs t => (Below.refl _ w).alloc (Nat.le_refl _) _
  have b2 : ∀ cs t cs' t', Below w.heap.size w ((w.alloc (.cells cs t)).alloc (.cells cs' t')) := fun cs t cs' t' => (b1 cs t).alloc (by simp) _
  by_cases k1 : kind = 1
  · subst k1
    have hS : Hid (okM { kind := 1, name := name, ver := ver, frm := frm, non := non, err := err, text := text } = (decide (1 ≤ name.size ∧ name.size ≤ 64) && num ver)) := rfl
    rw [hS.out]
    have h0 : Hid (name.toList = [] → name.size = 0) := fun g => by
      have := size_zero name; rw [g] at this; simpa using this.symm
    have h3 : Hid (¬ name.toList = [] → name.size ≠ 0 ∧ name.toList.isEmpty = false) := fun g => by
      have e : name.toList.isEmpty = false := by rw [List.isEmpty_eq_false_iff]; exact g
      have := size_zero name; rw [e] at this
      exact ⟨by simpa using this.symm, e⟩
    go_enter Tryd.func28, Tryd.ntmps28
    go_wp2_with (go_at_call 40; refine (are1 _ _ _ _ (by simp)).mono ?_; rintro e w' ⟨rfl, rfl⟩)
    all_goals go_ret
    all_goals refine ⟨ret_bool ?_, by first | exact b1 _ _ | exact b2 _ _ _ _⟩
    all_goals first
      | (have g0 : name.toList = [] := by assumption
         have g1 := h0.out g0
         have e : decide (1 ≤ name.size ∧ name.size ≤ 64) = false := decide_eq_false (by omega)
         rw [e]; first | rfl | (rw [g0]; rfl))
      | (have g0 : ¬ name.toList = [] := by assumption
         obtain ⟨g1, g2⟩ := h3.out g0
         first | rw [g2] | skip
         first
           | (have e : decide (1 ≤ name.size ∧ name.size ≤ 64) = true := decide_eq_true (by omega)
              rw [e]; simp; done)
           | (have e : ¬ name.size ≤ 64 := by omega
              simp [e]; done))
  by_cases k2 : kind = 2
  · subst k2
    have hS : Hid (okM { kind := 2, name := name, ver := ver, frm := frm, non := non, err := err, text := text } = (num non && num frm && num ver && decide (text.size ≤ 65536))) := rfl
    rw [hS.out]
    obtain ⟨b, hb⟩ : ∃ b, (num non && num frm && num ver) = b := ⟨_, rfl⟩
    rw [hb]
    cases b <;> by_cases hl : (text.size : Int) ≤ 65536
    all_goals
      go_enter Tryd.func28, Tryd.ntmps28
      go_wp2_with (go_at_call 40; refine (are3 _ _ _ _ _ _ (by simp)).mono ?_; rintro e w' ⟨rfl, rfl⟩; rw [hb])
      go_ret
      refine ⟨ret_bool ?_, b2 _ _ _ _⟩
      simp; try omega
  by_cases k3 : kind = 3
  · subst k3
    have hS : Hid (okM { kind := 3, name := name, ver := ver, frm := frm, non := non, err := err, text := text } = (num non && num ver)) := rfl
    rw [hS.out]
    go_enter Tryd.func28, Tryd.ntmps28
    go_wp2_with (go_at_call 40; refine (are2 _ _ _ _ _ (by simp)).mono ?_; rintro e w' ⟨rfl, rfl⟩)
    go_ret
    exact ⟨rfl, b2 _ _ _ _⟩
  by_cases k4 : kind = 4
  · subst k4
    have hS : Hid (okM { kind := 4, name := name, ver := ver, frm := frm, non := non, err := err, text := text } = (num non && num ver && decide (1 ≤ err ∧ err ≤ 65535))) := rfl
    rw [hS.out]
    obtain ⟨b, hb⟩ : ∃ b, (num non && num ver) = b := ⟨_, rfl⟩
    rw [hb]
    cases b
    all_goals
      go_enter Tryd.func28, Tryd.ntmps28
      go_wp2_with (go_at_call 40; refine (are2 _ _ _ _ _ (by simp)).mono ?_; rintro e w' ⟨rfl, rfl⟩; rw [hb])
      all_goals go_ret
      all_goals refine ⟨ret_bool ?_, b2 _ _ _ _⟩
      all_goals simp; try omega
  by_cases k5 : kind = 5
  · subst k5
    have hS : Hid (okM { kind := 5, name := name, ver := ver, frm := frm, non := non, err := err, text := text } = num non) := rfl
    rw [hS.out]
    go_enter Tryd.func28, Tryd.ntmps28
    go_wp2_with (go_at_call 40; refine (are1 _ _ _ _ (by simp)).mono ?_; rintro e w' ⟨rfl, rfl⟩)
    go_ret
    exact ⟨rfl, b2 _ _ _ _⟩
  · have hS : Hid (okM { kind := kind, name := name, ver := ver, frm := frm, non := non, err := err, text := text } = false) := by
      show _ = _
      unfold okM; rw [if_neg k1, if_neg k2, if_neg k3, if_neg k4, if_neg k5]
    rw [hS.out]
    go_enter Tryd.func28, Tryd.ntmps28
    go_wp2
    go_ret
    exact ⟨rfl, b1 _ _⟩
end Go.Proofs.YteeclghhoioapaaDoor
