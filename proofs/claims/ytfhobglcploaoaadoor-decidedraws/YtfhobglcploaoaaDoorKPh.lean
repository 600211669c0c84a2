/-
  Whether a pattern takes a host, a path, a method: the program's and the document's.
-/
import Derived.Test.YtfhobglcploaoaaDoorKPg
namespace Go.Proofs.YtfhobglcploaoaaDoor.Kk
open Go.RowKit
set_option linter.unusedVariables false
set_option linter.unusedSimpArgs false
set_option maxRecDepth 100000
theorem str_add (w : World) (x y : List UInt8) (h : x.length + y.length ≤ 9223372036854775807) : (Op.stringOp .add (ByteArray.mk x.toArray) ⟨y.toArray⟩).run Tryd.prog w = .ok (.string ⟨(x ++ y).toArray⟩) w := by
  have e := run_string_add_sum (P := Tryd.prog) (w := w) (a := ByteArray.mk x.toArray) (b := ⟨y.toArray⟩) h
  rw [e]
  congr 2
def belF (h a : List UInt8) : Bool := Lib.hasSuffix h (46 :: a)
def takF (p : Int × List UInt8) (h : List UInt8) : Bool := if p.1 = 0 then (h == p.2) else if p.1 = 1 then belF h p.2 else (p.1 == 2)
theorem isBelow_any (h a : List UInt8) (w : World) (h1 : h.length ≤ 2 ^ 62) (h2 : a.length ≤ 2 ^ 62) : Calls Tryd.prog 47 #[.string ⟨h.toArray⟩, .string ⟨a.toArray⟩] w fun e w' => e = .returned (.bool (belF h a)) ∧ w' = w := by
  have hadd : (Op.stringOp .add (ByteArray.mk #[46]) ⟨a.toArray⟩).run Tryd.prog w = .ok (.string ⟨(46 :: a).toArray⟩) w := str_add w [46] a (by simp; omega)
  have hS := Tryd.strings_HasSuffix ⟨h.toArray⟩ ⟨(46 :: a).toArray⟩ w (by show h.length ≤ _; omega)
  go_enter Tryd.func47, Tryd.ntmps47
  go_wp2_with fail
  refine hS.mono ?_
  rintro e w1 ⟨rfl, hw⟩
  have hw := hw.symm
  subst hw
  go_wp2
  go_ret
  exact ⟨rfl, rfl⟩
theorem takes_any (n : Int) (t h : List UInt8) (w : World) (hn : n = 0 ∨ n = 1 ∨ n = 2 ∨ n = 3) (h1 : h.length ≤ 2 ^ 62) (h2 : t.length ≤ 2 ^ 62) : Calls Tryd.prog 35 #[patV (n, t), .string ⟨h.toArray⟩] w fun e w' => e = .returned (.bool (takF (n, t) h)) ∧ Below w.heap.size w w' := by
  have hB := fun w => isBelow_any h t w h1 h2
  unfold patV
  rcases hn with rfl | rfl | rfl | rfl
  · go_enter Tryd.func35, Tryd.ntmps35
    go_wp2
    go_ret
    exact ⟨rfl, (Below.refl _ w).alloc (Nat.le_refl _) _⟩
  · go_enter Tryd.func35, Tryd.ntmps35
    go_wp2_with fail
    refine (hB _).mono ?_
    rintro e w1 ⟨rfl, rfl⟩
    go_wp2
    go_ret
    exact ⟨rfl, (Below.refl _ w).alloc (Nat.le_refl _) _⟩
  · go_enter Tryd.func35, Tryd.ntmps35
    go_wp2
    go_ret
    exact ⟨rfl, (Below.refl _ w).alloc (Nat.le_refl _) _⟩
  · go_enter Tryd.func35, Tryd.ntmps35
    go_wp2
    go_ret
    exact ⟨rfl, (Below.refl _ w).alloc (Nat.le_refl _) _⟩
def hostM (a s : List UInt8) : Bool := hostB s && takF (srtF a) (fldF s)
theorem fldF_len (l : List UInt8) : (fldF l).length = l.length := by simp [fldF]
theorem srt_len (l : List UInt8) : (srtF l).2.length ≤ l.length := by
  rcases srt_cases l with rfl | ⟨r, rfl, hh, hE⟩ | ⟨r, rfl, hh, hE⟩ | ⟨h1, h2, hh, hE⟩ | ⟨h1, h2, hh, hE⟩
  · rw [srt_all]; simp
  all_goals rw [hE]; simp [fldF_len]
  omega
theorem host_any (a s : List UInt8) (w : World) (g1 : a.length ≤ 2 ^ 61) (g2 : s.length ≤ 2 ^ 61) : Calls Tryd.prog 28 #[.string ⟨a.toArray⟩, .string ⟨s.toArray⟩] w fun e w' => e = .returned (.bool (hostM a s)) ∧ Below w.heap.size w w' := by
  have h1 : a.length ≤ 2 ^ 62 := by omega
  have h2 : s.length ≤ 2 ^ 62 := by omega
  cases hh : hostB s with
  | false =>
    have hF := fold_no s w h2 hh
    have HE : Hid (hostM a s = false) := hide2 (by simp [hostM, hh])
    clear hh
    go_enter Tryd.func28, Tryd.ntmps28
    go_wp2_with fail
    refine hF.mono ?_
    rintro e w1 ⟨rfl, rfl⟩
    go_wp2
    go_ret
    exact ⟨ret_bool HE.out.symm, Below.refl _ _⟩
  | true =>
    have hF := fold_ok s w h2 hh
    have hP := fun w => patternOf_any a w h1
    have hT := fun w => takes_any (srtF a).1 (srtF a).2 (fldF s) w (srt_low a) (by rw [fldF_len]; exact h2) (Nat.le_trans (srt_len a) h1)
    have HE : Hid (hostM a s = takF (srtF a) (fldF s)) := hide2 (by simp [hostM, hh])
    rw [show ((srtF a).1, (srtF a).2) = srtF a from rfl] at hT
    generalize takF (srtF a) (fldF s) = b at hT HE
    generalize patV (srtF a) = v at hT hP
    generalize fldF s = t at hF hT
    clear hh
    go_enter Tryd.func28, Tryd.ntmps28
    go_wp2_with fail
    refine hF.mono ?_
    rintro e w1 ⟨rfl, hb⟩
    have HB := hide2 hb
    clear hb
    go_wp2_with fail
    refine (hP _).mono ?_
    rintro e w2 ⟨rfl, hb⟩
    replace HB := hide2 (below_two HB.out hb)
    clear hb
    go_wp2_with fail
    refine (hT _).mono ?_
    rintro e w3 ⟨rfl, hb⟩
    replace HB := hide2 (below_two HB.out hb)
    clear hb
    go_wp2
    go_ret
    exact ⟨ret_bool HE.out.symm, HB.out⟩
set_option maxHeartbeats 4000000 in
theorem rhost_any (a s : List UInt8) (w : World) (g1 : a.length ≤ 2 ^ 61) (g2 : s.length ≤ 2 ^ 61) : Calls Tryd.prog 31 #[.string ⟨a.toArray⟩, .string ⟨s.toArray⟩] w fun e w' => e = .returned (.bool (hostM a s)) ∧ Below w.heap.size w w' := by
  have h1 : a.length ≤ 2 ^ 62 := by omega
  have h2 : s.length ≤ 2 ^ 62 := by omega
  have hP := fun w => rsort_any a w h1
  unfold srtR at hP
  have hlow := srt_low a
  have hE : ∀ x, (hostB s && takF (srtF a) (fldF s)) = x → hostM a s = x := fun x h => h
  have hl2 := Nat.le_trans (srt_len a) g1
  generalize srtF a = p at hP hlow hE hl2
  obtain ⟨n, t⟩ := p
  simp only at hP hlow hl2
  have HE := hide2 hE
  clear hE
  cases hh : hostB s with
  | false =>
    have hF := rfold_no s w h2 hh
    have HX := hide2 (HE.out false (by simp [hh]))
    clear hh HE
    go_enter Tryd.func31, Tryd.ntmps31
    go_wp2_with fail
    refine hF.mono ?_
    rintro e w1 ⟨rfl, hb⟩
    have HB := hide2 hb
    clear hb
    go_wp2_with fail
    refine (hP _).mono ?_
    rintro e w2 ⟨rfl, hb⟩
    replace HB := hide2 (below_two HB.out hb)
    clear hb
    go_wp2
    go_ret
    exact ⟨ret_bool HX.out.symm, HB.out⟩
  | true =>
    have hF := rfold_ok s w h2 hh
    have HX : Hid (hostM a s = takF (n, t) (fldF s)) := hide2 (HE.out _ (by simp [hh]))
    have hfl : (fldF s).length ≤ 2 ^ 62 := by rw [fldF_len]; exact h2
    generalize fldF s = f at hF HX hfl
    clear hh HE
    have ht62 : t.length + 1 ≤ 2 ^ 62 := by omega
    have hN := fun w => ends_any f (46 :: t) w hfl (by simp only [List.length_cons]; omega)
    clear ht62
    have hadd : ∀ w, (Op.stringOp .add (ByteArray.mk #[46]) ⟨t.toArray⟩).run Tryd.prog w = .ok (.string ⟨(46 :: t).toArray⟩) w := fun w => str_add w [46] t (by simp; omega)
    rcases hlow with rfl | rfl | rfl | rfl
    all_goals
      go_enter Tryd.func31, Tryd.ntmps31
      go_wp2_with fail
      refine hF.mono ?_
      rintro e w1 ⟨rfl, hb⟩
      have HB := hide2 hb
      clear hb
      go_wp2_with fail
      refine (hP _).mono ?_
      rintro e w2 ⟨rfl, hb⟩
      replace HB := hide2 (below_two HB.out hb)
      have hadd2 := hadd w2
      clear hb
      go_wp2_with (go_at_call 39; refine (hN _).mono ?_; rintro e w3 ⟨rfl, hw⟩; have hw := hw.symm; subst hw)
      all_goals
        go_ret
        refine ⟨ret_bool ?_, HB.out⟩
        rw [HX.out]
        first | rfl | (simp [takF, belF]; done) | (simp [takF, belF, *]; done) | (simp_all [takF, belF]; done)
end Go.Proofs.YtfhobglcploaoaaDoor.Kk
