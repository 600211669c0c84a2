/-
  The contracts of Read and the document's Read.
-/
import Derived.Test.YtkiikaopoeglcaaRec
import Derived.Deep.QuietTactic
import Derived.BigQuiet
import Derived.Laws.Cover3
namespace Go.Proofs.Ytkiikaopoeglcaa
open Go.RowKit
set_option linter.unusedVariables false
set_option linter.unusedSimpArgs false
/-- The number in the first eight bytes. -/
def numF (zs : List Int) : Int := ((((((zs.getD 0 0 * 256 + zs.getD 1 0) * 256 + zs.getD 2 0) * 256 + zs.getD 3 0) * 256 + zs.getD 4 0) * 256 + zs.getD 5 0) * 256 + zs.getD 6 0) * 256 + zs.getD 7 0
def readF (zs : List Int) : Int × ByteArray × Int :=
  if zs.length < 8 ∨ 65544 < zs.length then (0, ⟨#[]⟩, 71) else if numF zs < 1 ∨ 1048576 < numF zs then (0, ⟨#[]⟩, 71) else (numF zs, bstr (zs.drop 8), 0)
def ReadIs (w : World) (zs : List Int) (e : Ending) (w' : World) : Prop :=
  e = .returned (.tuple #[.int .i64 (readF zs).1, .string (readF zs).2.1, .int .i64 (readF zs).2.2]) ∧ Below w.heap.size w w'
theorem readIs {w w' : World} {zs : List Int} {a b : Int} {s : ByteArray} (h : readF zs = (a, s, b)) (hb : Below w.heap.size w w') : ReadIs w zs (.returned (.tuple #[.int .i64 a, .string s, .int .i64 b])) w' := by
  refine ⟨?_, hb⟩; rw [h]
set_option maxRecDepth 100000 in
set_option maxHeartbeats 1000000 in
theorem read_any (a : Option Addr) (n cap : Nat) (zs : List Int) (w : World) (hP : Bs w a n cap zs) :
    Calls Try.prog 6 #[.slice a n cap] w fun e w' => ReadIs w zs e w' := by
  have hn := hP.len; have hfit := hP.fits; have hcap := hP.cap; have hsm := hP.small
  by_cases h8 : n < 8
  · have HR : Hid (readF zs = (0, ⟨#[]⟩, 71)) := if_pos (.inl (by omega))
    clear hn hP
    go_enter Try.func6, Try.ntmps6
    go_wp2
    go_ret3
    exact readIs HR.out (Below.refl _ _)
  by_cases h9 : 65544 < n
  · have HR : Hid (readF zs = (0, ⟨#[]⟩, 71)) := if_pos (.inr (by omega))
    clear hn hP
    go_enter Try.func6, Try.ntmps6
    go_wp2
    go_ret3
    exact readIs HR.out (Below.refl _ _)
  have hR0 : ¬ (zs.length < 8 ∨ 65544 < zs.length) := by omega
  have ho := hP.oct
  rcases hP.has with ⟨_, h⟩ | ⟨x, rfl, hx⟩
  · rw [h] at hn; simp at hn; omega
  obtain ⟨b, off, rfl, f⟩ := ints_at (k := .u8) (zs := zs) hx (by omega)
  have o0 := ho 0; have o1 := ho 1; have o2 := ho 2; have o3 := ho 3; have o4 := ho 4; have o5 := ho 5; have o6 := ho 6; have o7 := ho 7
  have e0 := f 0 (by omega); have e1 := f 1 (by omega); have e2 := f 2 (by omega); have e3 := f 3 (by omega); have e4 := f 4 (by omega); have e5 := f 5 (by omega); have e6 := f 6 (by omega); have e7 := f 7 (by omega)
  have hat : ∀ W, (Instr.arrayAt 36 (.slice (some ⟨b, off, none⟩) 8 cap)).run Try.prog W = .ok (.pointer (some ⟨b, off, none⟩)) W := fun W => run_arrayAt W 36 _ 8 _ 8 cap Try.underlying36 (by omega)
  have hnf : numF zs = ((((((zs.getD 0 0 * 256 + zs.getD 1 0) * 256 + zs.getD 2 0) * 256 + zs.getD 3 0) * 256 + zs.getD 4 0) * 256 + zs.getD 5 0) * 256 + zs.getD 6 0) * 256 + zs.getD 7 0 := rfl
  obtain ⟨J, hJ⟩ : ∃ J, numF zs = J := ⟨_, rfl⟩
  have HB : Hid (Bs w (some ⟨b, off, none⟩) n cap zs) := hP
  have HZ : Hid (readF zs = if J < 1 ∨ 1048576 < J then (0, ⟨#[]⟩, 71) else (J, bstr (zs.drop 8), 0)) := by
    show readF zs = _
    rw [readF, if_neg hR0, hJ]
  rw [hJ] at hnf
  generalize zs.getD 0 0 = z0 at *
  generalize zs.getD 1 0 = z1 at *
  generalize zs.getD 2 0 = z2 at *
  generalize zs.getD 3 0 = z3 at *
  generalize zs.getD 4 0 = z4 at *
  generalize zs.getD 5 0 = z5 at *
  generalize zs.getD 6 0 = z6 at *
  generalize zs.getD 7 0 = z7 at *
  have J0 : 0 ≤ J := by omega
  have J1 : J < 18446744073709551616 := by omega
  have HN : Hid (zs.length = n) := hn
  have HJ : Hid (J = ((((((z0 * 256 + z1) * 256 + z2) * 256 + z3) * 256 + z4) * 256 + z5) * 256 + z6) * 256 + z7) := hnf
  simp only [Nat.add_zero] at e0
  clear hx f hJ hnf ho hR0 hn hP
  have c8 : (8 : Int) ≤ cap := by omega
  have c9 : (8 : Int) ≤ n := by omega
  go_enter Try.func6, Try.ntmps6
  go_wp2_with fail
  refine (join_any z0 z1 z2 z3 z4 z5 z6 z7 _ o0 o1 o2 o3 o4 o5 o6 o7).mono ?_
  rintro e w1 ⟨rfl, hb1⟩
  rw [← HJ.out]
  clear o0 o1 o2 o3 o4 o5 o6 o7 e0 e1 e2 e3 e4 e5 e6 e7 hat HJ
  by_cases j0 : J < 1
  · go_wp2
    go_ret3
    exact readIs (HZ.out.trans (if_pos (.inl j0))) hb1
  by_cases j1 : 1048576 < J
  · go_wp2
    go_ret3
    exact readIs (HZ.out.trans (if_pos (.inr j1))) hb1
  have HF : Hid (readF zs = (J, bstr (zs.drop 8), 0)) := HZ.out.trans (if_neg (by omega))
  have hm : (cap : Int) ≤ 9223372036854775807 := by unfold maxLen at hcap; omega
  obtain ⟨S, hS⟩ : ∃ S, bstr (zs.drop 8) = S := ⟨_, rfl⟩
  rw [hS] at HF
  by_cases hc : cap = 8
  · subst hc
    obtain rfl : n = 8 := by omega
    have s1 : ∀ q x, (convert 22 9 (.slice x 0 0)).run Try.prog (w1.drewN q) = .ok (.string S) (w1.drewN q) := by
      intro q x
      rw [← hS, show zs.drop 8 = [] by simp [HN.out]]
      rcases x with _ | x
      · exact str_of _ _ 0 0 [] rfl (.inl ⟨rfl, rfl⟩)
      · exact str_of _ _ 0 0 [] rfl (.inr ⟨_, rfl, fun j hj => by simp at hj⟩)
    clear hS
    go_wp2_with fail
    go_quiet (fail)
    go_wp2
    go_ret3
    exact readIs HF.out (below_drewN hb1 _)
  · have s1 : ∀ q, (convert 22 9 (.slice (some ⟨b, off + 8, none⟩) (n - 8) (cap - 8))).run Try.prog (w1.drewN q) = .ok (.string S) (w1.drewN q) := by
      intro q
      rw [← hS]
      have := (HB.out.below hb1).back 8 (by omega)
      exact str_of _ _ (n - 8) (cap - 8) (zs.drop 8) this.len (has_drewN this.has q)
    clear hS
    go_wp2_with fail
    go_quiet (fail)
    go_wp2
    go_ret3
    exact readIs HF.out (below_drewN hb1 _)
/-- A front that is a number's. -/
theorem front_is (zs : List Int) (hz : Octets zs) (h8 : 8 ≤ zs.length) (n : Int) (hn : n = zs.getD 5 0 * 65536 + zs.getD 6 0 * 256 + zs.getD 7 0) :
    (front n ++ zs.drop 8 = zs ↔ zs.getD 0 0 = 0 ∧ zs.getD 1 0 = 0 ∧ zs.getD 2 0 = 0 ∧ zs.getD 3 0 = 0 ∧ zs.getD 4 0 = 0) := by
  have o5 := hz 5; have o6 := hz 6; have o7 := hz 7
  match zs, h8 with
  | a0 :: a1 :: a2 :: a3 :: a4 :: a5 :: a6 :: a7 :: r, _ =>
    simp only [List.getD_cons_zero, List.getD_cons_succ] at *
    constructor
    · intro h
      simp [front] at h
      omega
    · rintro ⟨rfl, rfl, rfl, rfl, rfl⟩
      simp [front]
      omega
theorem num_is (zs : List Int) (hz : Octets zs) : (zs.getD 0 0 = 0 ∧ zs.getD 1 0 = 0 ∧ zs.getD 2 0 = 0 ∧ zs.getD 3 0 = 0 ∧ zs.getD 4 0 = 0 → numF zs = zs.getD 5 0 * 65536 + zs.getD 6 0 * 256 + zs.getD 7 0) ∧
    (¬ (zs.getD 0 0 = 0 ∧ zs.getD 1 0 = 0 ∧ zs.getD 2 0 = 0 ∧ zs.getD 3 0 = 0 ∧ zs.getD 4 0 = 0) → 1048576 < numF zs) := by
  have o0 := hz 0; have o1 := hz 1; have o2 := hz 2; have o3 := hz 3; have o4 := hz 4; have o5 := hz 5; have o6 := hz 6; have o7 := hz 7
  unfold numF
  generalize zs.getD 0 0 = z0 at *
  generalize zs.getD 1 0 = z1 at *
  generalize zs.getD 2 0 = z2 at *
  generalize zs.getD 3 0 = z3 at *
  generalize zs.getD 4 0 = z4 at *
  generalize zs.getD 5 0 = z5 at *
  generalize zs.getD 6 0 = z6 at *
  generalize zs.getD 7 0 = z7 at *
  omega
/-- The document's way to read comes to the same. -/
theorem read_meets (zs : List Int) (hz : Octets zs) (h8 : 8 ≤ zs.length) (n : Int) (hn : n = zs.getD 5 0 * 65536 + zs.getD 6 0 * 256 + zs.getD 7 0) :
    readF zs = if (recF n (bstr (zs.drop 8))).2 ≠ 0 ∨ bstr (recF n (bstr (zs.drop 8))).1 ≠ bstr zs then (0, ⟨#[]⟩, 71) else (n, bstr (zs.drop 8), 0) := by
  have hs : (bstr (zs.drop 8)).size = zs.length - 8 := by rw [bstr_size]; simp
  have o5 := hz 5; have o6 := hz 6; have o7 := hz 7
  have nf := num_is zs hz
  have fi := front_is zs hz h8 n hn
  rw [← hn] at nf
  by_cases hl : 65544 < zs.length
  · have hr : (recF n (bstr (zs.drop 8))).2 ≠ 0 := by
      unfold recF
      split
      · simp
      · rw [if_pos (by omega)]; simp
    rw [if_pos (.inl hr), readF, if_pos (.inr hl)]
  have hle : ¬ (zs.length < 8 ∨ 65544 < zs.length) := by omega
  rw [readF, if_neg hle]
  by_cases hA : zs.getD 0 0 = 0 ∧ zs.getD 1 0 = 0 ∧ zs.getD 2 0 = 0 ∧ zs.getD 3 0 = 0 ∧ zs.getD 4 0 = 0
  · rw [nf.1 hA]
    by_cases hb : n < 1 ∨ 1048576 < n
    · rw [if_pos hb, recF_bad hb, if_pos (.inl (by simp))]
    · rw [if_neg hb, recF_ok hb (by omega), if_neg]
      rintro (h | h)
      · exact h rfl
      · refine h ?_
        show bstr (front n ++ sb (bstr (zs.drop 8))) = bstr zs
        rw [sb_bstr _ (hz.drop 8), fi.2 hA]
  · rw [if_pos (.inr (nf.2 hA))]
    by_cases hb : n < 1 ∨ 1048576 < n
    · rw [recF_bad hb, if_pos (.inl (by simp))]
    · have hne : bstr (front n ++ sb (bstr (zs.drop 8))) ≠ bstr zs := by
        intro h'
        refine hA (fi.1 ?_)
        have hf : Octets (front n) := fun
          | 0 | 1 | 2 | 3 | 4 => by simp [front]
          | 5 => by simp [front]; omega
          | 6 => by simp [front]; omega
          | 7 => by simp [front]; omega
          | i + 8 => by simp [front]
        rw [sb_bstr _ (hz.drop 8)] at h'
        exact bstr_inj _ _ (hf.append (hz.drop 8)) hz h'
      rw [recF_ok hb (by omega)]
      exact (if_pos (.inr hne)).symm
end Go.Proofs.Ytkiikaopoeglcaa
