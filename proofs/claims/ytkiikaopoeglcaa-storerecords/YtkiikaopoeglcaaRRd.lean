/-
  The contract of the document's Read.
-/
import Derived.Test.YtkiikaopoeglcaaRd
namespace Go.Proofs.Ytkiikaopoeglcaa
open Go.RowKit
set_option linter.unusedVariables false
set_option linter.unusedSimpArgs false
theorem str_ne {X Y : ByteArray} (h : X ≠ Y) : (X.toList == Y.toList) = false := by
  rw [ByteArray.toList_eq, ByteArray.toList_eq]
  refine beq_false_of_ne fun e => h ?_
  cases X; cases Y
  simpa [Array.toList_inj] using e
set_option maxRecDepth 100000 in
set_option maxHeartbeats 2000000 in
theorem rread_any (a : Option Addr) (n cap : Nat) (zs : List Int) (w : World) (hP : Bs w a n cap zs) :
    Calls Try.prog 7 #[.slice a n cap] w fun e w' => ReadIs w zs e w' := by
  have hn := hP.len; have hfit := hP.fits; have hcap := hP.cap; have hsm := hP.small
  by_cases h8 : n < 8
  · have HR : Hid (readF zs = (0, ⟨#[]⟩, 71)) := if_pos (.inl (by omega))
    clear hn hP
    go_enter Try.func7, Try.ntmps7
    go_wp2
    go_ret3
    exact readIs HR.out (Below.refl _ _)
  have ho := hP.oct
  rcases hP.has with ⟨_, h⟩ | ⟨x, rfl, hx⟩
  · rw [h] at hn; simp at hn; omega
  obtain ⟨b, off, rfl, f⟩ := ints_at (k := .u8) (zs := zs) hx (by omega)
  have o5 := ho 5; have o6 := ho 6; have o7 := ho 7
  have e5 := f 5 (by omega); have e6 := f 6 (by omega); have e7 := f 7 (by omega)
  obtain ⟨J, hJ⟩ : ∃ J, zs.getD 5 0 * 65536 + zs.getD 6 0 * 256 + zs.getD 7 0 = J := ⟨_, rfl⟩
  have HB : Hid (Bs w (some ⟨b, off, none⟩) n cap zs) := hP
  have hz := read_meets zs ho (by omega) J hJ.symm
  obtain ⟨S, hS⟩ : ∃ S, bstr (zs.drop 8) = S := ⟨_, rfl⟩
  have hSz : S.size ≤ 140737488355328 := by rw [← hS, bstr_size]; simp; omega
  rw [hS] at hz
  have HZ : Hid (readF zs = if (recF J S).2 ≠ 0 ∨ bstr (recF J S).1 ≠ bstr zs then (0, ⟨#[]⟩, 71) else (J, S, 0)) := hz
  have HS : Hid (bstr (zs.drop 8) = S) := hS
  generalize zs.getD 5 0 = z5 at *
  generalize zs.getD 6 0 = z6 at *
  generalize zs.getD 7 0 = z7 at *
  have J0 : 0 ≤ J := by omega
  have J1 : J < 16777216 := by omega
  have HN : Hid (zs.length = n) := hn
  have HJ : Hid (z5 * 65536 + z6 * 256 + z7 = J) := hJ
  clear hx f hJ hz hS ho hn hP
  have c8 : (8 : Int) ≤ cap := by omega
  have c9 : (8 : Int) ≤ n := by omega
  have c5 : (5 : Int) < n := by omega
  have c6 : (6 : Int) < n := by omega
  have c7 : (7 : Int) < n := by omega
  have hm : (cap : Int) ≤ 9223372036854775807 := by unfold maxLen at hcap; omega
  go_enter Try.func7, Try.ntmps7
  go_wp2_with fail
  go_quiet (fail)
  rw [HJ.out]
  by_cases hc : cap = 8
  · subst hc
    obtain rfl : n = 8 := by omega
    have s1 : ∀ x, (convert 22 9 (.slice x 0 0)).run Try.prog (w.drewN nq) = .ok (.string S) (w.drewN nq) := by
      intro x
      rw [← HS.out, show zs.drop 8 = [] by simp [HN.out]]
      rcases x with _ | x
      · exact str_of _ _ 0 0 [] rfl (.inl ⟨rfl, rfl⟩)
      · exact str_of _ _ 0 0 [] rfl (.inr ⟨_, rfl, fun j hj => by simp at hj⟩)
    clear e5 e6 e7 o5 o6 o7
    go_wp2_with fail
    refine (rrecord_any J S _ hSz).mono ?_
    rintro e w2 ⟨a2, m2, cp2, rfl, hm2, hh2, hb2⟩
    have hb2' : Below w.heap.size w w2 := (below_drewN (Below.refl _ w) nq).trans (hb2.mono (Nat.le_refl _))
    have s3 := str_of w2 (some ⟨b, off, none⟩) 8 8 zs HN.out (HB.out.has.of_below hb2')
    have s2 := str_of w2 a2 m2 cp2 _ hm2 hh2
    obtain ⟨Y, hY⟩ : ∃ Y, bstr zs = Y := ⟨_, rfl⟩
    obtain ⟨X, hX⟩ : ∃ X, bstr (recF J S).1 = X := ⟨_, rfl⟩
    obtain ⟨c, hc⟩ : ∃ c, (recF J S).2 = c := ⟨_, rfl⟩
    have HZ' : Hid (readF zs = if c ≠ 0 ∨ X ≠ Y then (0, ⟨#[]⟩, 71) else (J, S, 0)) := by
      have := HZ.out; rw [hc, hX, hY] at this; exact this
    rw [hY] at s3
    rw [hX] at s2
    rw [hc]
    clear hm2 hh2 hb2 HB hY hX hc HZ HS HN hSz s1
    by_cases c0 : c = 0
    · subst c0
      by_cases hXY : X = Y
      · subst hXY
        go_wp2
        go_ret3
        exact readIs (HZ'.out.trans (if_neg (by rintro (h | h) <;> exact h rfl))) hb2'
      · have hl := str_ne hXY
        go_wp2
        go_ret3
        exact readIs (HZ'.out.trans (if_pos (.inr hXY))) hb2'
    · go_wp2
      go_ret3
      exact readIs (HZ'.out.trans (if_pos (.inl c0))) hb2'
  · have s1 : (convert 22 9 (.slice (some ⟨b, off + 8, none⟩) (n - 8) (cap - 8))).run Try.prog (w.drewN nq) = .ok (.string S) (w.drewN nq) := by
      rw [← HS.out]
      have := HB.out.back 8 (by omega)
      exact str_of _ _ (n - 8) (cap - 8) (zs.drop 8) this.len (has_drewN this.has nq)
    clear e5 e6 e7 o5 o6 o7
    go_wp2_with fail
    refine (rrecord_any J S _ hSz).mono ?_
    rintro e w2 ⟨a2, m2, cp2, rfl, hm2, hh2, hb2⟩
    have hb2' : Below w.heap.size w w2 := (below_drewN (Below.refl _ w) nq).trans (hb2.mono (Nat.le_refl _))
    have s3 := str_of w2 (some ⟨b, off, none⟩) n cap zs HN.out (HB.out.has.of_below hb2')
    have s2 := str_of w2 a2 m2 cp2 _ hm2 hh2
    obtain ⟨Y, hY⟩ : ∃ Y, bstr zs = Y := ⟨_, rfl⟩
    obtain ⟨X, hX⟩ : ∃ X, bstr (recF J S).1 = X := ⟨_, rfl⟩
    obtain ⟨c, hc⟩ : ∃ c, (recF J S).2 = c := ⟨_, rfl⟩
    have HZ' : Hid (readF zs = if c ≠ 0 ∨ X ≠ Y then (0, ⟨#[]⟩, 71) else (J, S, 0)) := by
      have := HZ.out; rw [hc, hX, hY] at this; exact this
    rw [hY] at s3
    rw [hX] at s2
    rw [hc]
    clear hm2 hh2 hb2 HB hY hX hc HZ HS HN hSz s1
    by_cases c0 : c = 0
    · subst c0
      by_cases hXY : X = Y
      · subst hXY
        go_wp2
        go_ret3
        exact readIs (HZ'.out.trans (if_neg (by rintro (h | h) <;> exact h rfl))) hb2'
      · have hl := str_ne hXY
        go_wp2
        go_ret3
        exact readIs (HZ'.out.trans (if_pos (.inr hXY))) hb2'
    · go_wp2
      go_ret3
      exact readIs (HZ'.out.trans (if_pos (.inl c0))) hb2'
end Go.Proofs.Ytkiikaopoeglcaa
