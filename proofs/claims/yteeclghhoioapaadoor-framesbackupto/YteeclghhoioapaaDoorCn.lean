/-
  The cursor's number and text.
-/
import Derived.Test.YteeclghhoioapaaDoorCt
namespace Go.Proofs.YteeclghhoioapaaDoor
open Go.RowKit
set_option linter.unusedVariables false
set_option linter.unusedSimpArgs false
set_option maxRecDepth 100000
theorem Cu.below {w w' : World} {C : Nat} {c : Cur} (h : Cu w C c) (hb : Below w.heap.size w w') : Cu w' C c := by
  obtain ⟨a, n, cap, hC, hB, hx⟩ := h
  exact ⟨a, n, cap, (hb.block C (Array.getElem?_eq_some_iff.1 hC).1).trans hC, hB.below hb, hx⟩
theorem Cu.lt {w : World} {C : Nat} {c : Cur} (h : Cu w C c) : C < w.heap.size := by
  obtain ⟨a, n, cap, hC, _⟩ := h
  exact (Array.getElem?_eq_some_iff.1 hC).1
theorem Cu.oct {w : World} {C : Nat} {c : Cur} (h : Cu w C c) : Octets c.rest := by
  obtain ⟨a, n, cap, hC, hB, _⟩ := h
  exact hB.oct
theorem tk_length (c : Cur) (k : Nat) : (c.tk k).1.length ≤ k := by
  unfold Cur.tk
  split
  · simp
  · simp; omega
set_option maxHeartbeats 1000000 in
theorem number_any (C : Nat) (c : Cur) (wd : Nat) (w : World) (h : Cu w C c) (h8 : wd ≤ 8) :
    Calls Tryd.prog 51 #[.pointer (some ⟨C, 0, none⟩), .int .i64 wd] w fun e w' => e = .returned (.int .i64 (c.nm wd).1) ∧ Cu w' C (c.nm wd).2 ∧ Bt w w' C := by
  have HT := hideL (take_any C c wd w h (by omega))
  have hl := tk_length c wd
  have HE : Hid (sgn (val (c.tk wd).1) = (c.nm wd).1 ∧ (c.tk wd).2 = (c.nm wd).2) := ⟨rfl, rfl⟩
  unfold TkE at HT
  obtain ⟨R, hR⟩ : ∃ R, c.tk wd = R := ⟨_, rfl⟩
  rw [hR] at HT HE hl
  have HL := hideL hl
  clear hl hR h
  go_enter Tryd.func51, Tryd.ntmps51
  go_wp2_with (first
    | (go_at_call 58; refine HT.out.mono ?_; rintro e w1 ⟨a1, cap1, rfl, hB1, hC1, hb1⟩; have HB1 := hideL hB1; have HC1 := hideL hC1; have HT1 := hideL hb1; clear hB1 hC1 hb1)
    | (go_at_call 33; refine (njoin_any a1 R.1.length cap1 R.1 _ rfl HB1.out.has HB1.out.oct (by have := HL.out; omega)).mono ?_; rintro e w2 ⟨rfl, hb2⟩; have HC2 := hideL (HC1.out.below hb2); have HT2 := hideL (HT1.out.below hb2 (Nat.le_of_lt HC1.out.lt)); clear hb2))
  go_ret
  exact ⟨ret_i64 HE.out.1, by rw [← HE.out.2]; exact HC2.out, HT2.out⟩
set_option maxHeartbeats 1000000 in
theorem ctext_any (C : Nat) (c : Cur) (wd : Nat) (w : World) (h : Cu w C c) (h8 : wd ≤ 4) :
    Calls Tryd.prog 52 #[.pointer (some ⟨C, 0, none⟩), .int .i64 wd] w fun e w' => e = .returned (.string (c.tx wd).1) ∧ Cu w' C (c.tx wd).2 ∧ Bt w w' C := by
  have HN := hideL (number_any C c wd w h (by omega))
  have hp := nm_pos wd h8 c h.oct
  have HE : Hid (bstr ((c.nm wd).2.tk (c.nm wd).1).1 = (c.tx wd).1 ∧ ((c.nm wd).2.tk (c.nm wd).1).2 = (c.tx wd).2) := ⟨rfl, rfl⟩
  obtain ⟨R, hR⟩ : ∃ R, c.nm wd = R := ⟨_, rfl⟩
  rw [hR] at HN HE hp
  have HP := hideL hp
  clear hp hR h
  go_enter Tryd.func52, Tryd.ntmps52
  go_wp2_with (first
    | (go_at_call 51; refine HN.out.mono ?_; rintro e w1 ⟨rfl, hC1, hb1⟩; have HC1 := hideL hC1; have HT1 := hideL hb1; clear hC1 hb1)
    | (go_at_call 58; refine (take_any C R.2 R.1 _ HC1.out HP.out).mono ?_; rintro e w2 ⟨a2, cap2, rfl, hB2, hC2, hb2⟩; have hs := str_of w2 a2 _ cap2 _ hB2.len hB2.has; have HC2 := hideL hC2; have HT2 := hideL (HT1.out.trans hb2); clear hB2 hC2 hb2))
  go_ret
  exact ⟨by rw [← HE.out.1]; rfl, by rw [← HE.out.2]; exact HC2.out, HT2.out⟩
end Go.Proofs.YteeclghhoioapaaDoor
