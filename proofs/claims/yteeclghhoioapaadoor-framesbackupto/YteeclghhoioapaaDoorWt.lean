/-
  write: a message's payload.
-/
import Derived.Test.YteeclghhoioapaaDoorLd
namespace Go.Proofs.YteeclghhoioapaaDoor
open Go.RowKit
set_option linter.unusedVariables false
set_option linter.unusedSimpArgs false
set_option maxRecDepth 100000
/-- A message's cells. -/
def mcs (m : Ms) : List Value := [.int .i64 m.kind, .string m.name, .int .i64 m.ver, .int .i64 m.frm, .int .i64 m.non, .int .i64 m.err, .string m.text]
/-- A message in a block. -/
def Bx (w : World) (B : Nat) (m : Ms) : Prop := ∃ t, w.heap[B]? = some (.cells (mcs m).toArray t (0, 0))
theorem Bx.keep {w w' : World} {B C : Nat} {m : Ms} (h : Bx w B m) (hb : Below C w w') (hB : B < C) : Bx w' B m := by
  obtain ⟨t, h⟩ := h
  exact ⟨t, (hb.block B hB).trans h⟩
theorem Bx.cs {w : World} {B : Nat} {kind ver frm non err : Int} {name text : ByteArray} (h : Bx w B { kind := kind, name := name, ver := ver, frm := frm, non := non, err := err, text := text }) :
    w.cell? ⟨B, 0, none⟩ = some (.int .i64 kind) ∧ w.cell? ⟨B, 1, none⟩ = some (.string name) ∧ w.cell? ⟨B, 2, none⟩ = some (.int .i64 ver) ∧ w.cell? ⟨B, 3, none⟩ = some (.int .i64 frm) ∧ w.cell? ⟨B, 4, none⟩ = some (.int .i64 non) ∧ w.cell? ⟨B, 5, none⟩ = some (.int .i64 err) ∧ w.cell? ⟨B, 6, none⟩ = some (.string text) := by
  obtain ⟨t, h⟩ := h
  refine ⟨?_, ?_, ?_, ?_, ?_, ?_, ?_⟩ <;> (rw [cell_of_row w B _ _ t _ h]; rfl)
theorem Rw.mono {w : World} {b c : Nat} {v : Value} {zs : List Int} (h : Rw w c v zs) (hb : b ≤ c) : Rw w b v zs := by
  refine ⟨h.1, ?_⟩
  rcases h.2 with h | ⟨g, cap, cur, hv, hbg, rest⟩
  · exact .inl h
  · exact .inr ⟨g, cap, cur, hv, by omega, rest⟩
/-- What a call that appends leaves. -/
def AppE (w : World) (base : Nat) (zs : List Int) (e : Ending) (w' : World) : Prop := ∃ v', e = .returned v' ∧ Rw w' base v' zs ∧ Below base w w'
theorem appN1 (base : Nat) (n : Int) (w : World) (hb : base ≤ w.heap.size) (h0 : 0 ≤ n) (h1 : n ≤ 255) : Calls Tryd.prog 43 #[.slice none 0 0, .int .i64 n, .int .i64 1] w fun e w' => AppE w base [n] e w' := by
  have := appN_any base (.slice none 0 0) [] n 1 w (Rw.nil _ _) hb (by simp) h0 (by omega) (by simp)
  rw [List.nil_append, digs1 n h0 h1] at this
  exact this
theorem appN8 (base : Nat) (v : Value) (xs : List Int) (n : Int) (w : World) (hown : Rw w base v xs) (hb : base ≤ w.heap.size) (h : num n = true) (hk : xs.length ≤ 2000000) : Calls Tryd.prog 43 #[v, .int .i64 n, .int .i64 8] w fun e w' => AppE w base (xs ++ digs 8 n) e w' :=
  appN_any base v xs n 8 w hown hb (by simp) (num_bd n h).1 (by have := num_bd n h; omega) hk
theorem appN2 (base : Nat) (v : Value) (xs : List Int) (n : Int) (w : World) (hown : Rw w base v xs) (hb : base ≤ w.heap.size) (h0 : 0 ≤ n) (h1 : n ≤ 65535) (hk : xs.length ≤ 2000000) : Calls Tryd.prog 43 #[v, .int .i64 n, .int .i64 2] w fun e w' => AppE w base (xs ++ digs 2 n) e w' :=
  appN_any base v xs n 2 w hown hb (by simp) h0 (by omega) hk
theorem appT1 (base : Nat) (v : Value) (xs : List Int) (s : ByteArray) (w : World) (hown : Rw w base v xs) (hb : base ≤ w.heap.size) (h1 : s.size ≤ 2000000) (hk : xs.length ≤ 1000000) : Calls Tryd.prog 44 #[v, .string s, .int .i64 1] w fun e w' => AppE w base (xs ++ (digs 1 s.size ++ sb s)) e w' :=
  appT_any base v xs s 1 w hown hb (by simp) h1 hk
theorem appT4 (base : Nat) (v : Value) (xs : List Int) (s : ByteArray) (w : World) (hown : Rw w base v xs) (hb : base ≤ w.heap.size) (h1 : s.size ≤ 2000000) (hk : xs.length ≤ 1000000) : Calls Tryd.prog 44 #[v, .string s, .int .i64 4] w fun e w' => AppE w base (xs ++ (digs 4 s.size ++ sb s)) e w' :=
  appT_any base v xs s 4 w hown hb (by simp) h1 hk
/-- What write holds on to: the box, and what is below. -/
def Hw (w0 : World) (m : Ms) (w : World) : Prop := Bx w w0.heap.size m ∧ Below w0.heap.size w0 w ∧ w0.heap.size + 1 ≤ w.heap.size
theorem Hw.step {w0 w w' : World} {m : Ms} (h : Hw w0 m w) (hb : Below (w0.heap.size + 1) w w') : Hw w0 m w' := by
  obtain ⟨h1, h2, h3⟩ := h
  exact ⟨h1.keep hb (by omega), h2.trans (hb.mono (by omega)), Nat.le_trans h3 hb.size⟩
theorem Hw.start (w0 : World) (m : Ms) (t : TypeId) : Hw w0 m (w0.alloc (.cells (mcs m).toArray t)) := ⟨⟨t, heap_alloc_new _ _⟩, (Below.refl _ _).alloc (Nat.le_refl _) _, by simp⟩
set_option maxHeartbeats 4000000 in
theorem write_any (m : Ms) (w : World) (ho : okM m = true) :
    Calls Tryd.prog 30 #[mv m] w fun e w' => AppE w w.heap.size (payM m) e w' := by
  obtain ⟨kind, name, ver, frm, non, err, text⟩ := m
  have hS := Hw.start w { kind := kind, name := name, ver := ver, frm := frm, non := non, err := err, text := text } 29
  by_cases k1 : kind = 1
  · subst k1
    have hP : payM { kind := 1, name := name, ver := ver, frm := frm, non := non, err := err, text := text } = [1] ++ (digs 1 name.size ++ sb name) ++ digs 8 ver := by simp [payM]
    have hO : okM { kind := 1, name := name, ver := ver, frm := frm, non := non, err := err, text := text } = (decide (1 ≤ name.size ∧ name.size ≤ 64) && num ver) := rfl
    rw [hO] at ho
    simp only [Bool.and_eq_true, decide_eq_true_eq] at ho
    obtain ⟨⟨n1, n2⟩, hv⟩ := ho
    rw [hP]
    clear hP hO
    have HV := hideL hv
    have HN := hideL n2
    clear hv n2
    simp only [mv, mcs] at *
    go_enter Tryd.func30, Tryd.ntmps30
    go_wp2_with (first
      | (go_at_call 43; have hq := hS; clear hq; refine (appN1 (w.heap.size + 1) _ _ (by simp) (by decide) (by decide)).mono ?_; rintro e w1 ⟨v1, rfl, hr1, hb1⟩; have hS1 := hS.step hb1; obtain ⟨c0, c1, c2, c3, c4, c5, c6⟩ := hS1.1.cs; have HS1 := hideL hS1; have HR1 := hideL hr1; clear hS1 hr1 hb1 hS)
      | (go_at_call 44; have hq := HR1; clear hq; refine (appT1 (w.heap.size + 1) v1 _ _ _ HR1.out HS1.out.2.2 (by have := HN.out; omega) (by simp [digs]; try omega)).mono ?_; rintro e w2 ⟨v2, rfl, hr2, hb2⟩; have hS2 := HS1.out.step hb2; clear c0 c1 c2 c3 c4 c5 c6; obtain ⟨c0, c1, c2, c3, c4, c5, c6⟩ := hS2.1.cs; have HS2 := hideL hS2; have HR2 := hideL hr2; clear hS2 hr2 hb2 HR1 HS1)
      | (go_at_call 43; have hq := HR2; clear hq; refine (appN8 (w.heap.size + 1) v2 _ _ _ HR2.out HS2.out.2.2 HV.out (by have := HN.out; simp [digs, sb_length]; omega)).mono ?_; rintro e w3 ⟨v3, rfl, hr3, hb3⟩; have hS3 := HS2.out.step hb3; clear c0 c1 c2 c3 c4 c5 c6; obtain ⟨c0, c1, c2, c3, c4, c5, c6⟩ := hS3.1.cs; have HS3 := hideL hS3; have HR3 := hideL hr3; clear hS3 hr3 hb3 HR2 HS2))
    go_ret
    exact ⟨v3, rfl, HR3.out.mono (by omega), HS3.out.2.1⟩
  by_cases k2 : kind = 2
  · subst k2
    have hP : payM { kind := 2, name := name, ver := ver, frm := frm, non := non, err := err, text := text } = [2] ++ digs 8 non ++ digs 8 frm ++ digs 8 ver ++ (digs 4 text.size ++ sb text) := by simp [payM]
    have hO : okM { kind := 2, name := name, ver := ver, frm := frm, non := non, err := err, text := text } = (num non && num frm && num ver && decide (text.size ≤ 65536)) := rfl
    rw [hO] at ho
    simp only [Bool.and_eq_true, decide_eq_true_eq] at ho
    obtain ⟨⟨⟨ha, hf⟩, hv⟩, ht⟩ := ho
    rw [hP]
    clear hP hO
    have HA := hideL ha
    have HF := hideL hf
    have HV := hideL hv
    have HT := hideL ht
    clear ha hf hv ht
    simp only [mv, mcs] at *
    go_enter Tryd.func30, Tryd.ntmps30
    go_wp2_with (first
      | (go_at_call 43; have hq := hS; clear hq; refine (appN1 (w.heap.size + 1) _ _ (by simp) (by decide) (by decide)).mono ?_; rintro e w1 ⟨v1, rfl, hr1, hb1⟩; have hS1 := hS.step hb1; obtain ⟨c0, c1, c2, c3, c4, c5, c6⟩ := hS1.1.cs; have HS1 := hideL hS1; have HR1 := hideL hr1; clear hS1 hr1 hb1 hS)
      | (go_at_call 43; have hq := HR1; clear hq; refine (appN8 (w.heap.size + 1) v1 _ _ _ HR1.out HS1.out.2.2 HA.out (by simp [digs, sb_length]; try omega)).mono ?_; rintro e w2 ⟨v2, rfl, hr2, hb2⟩; have hS2 := HS1.out.step hb2; clear c0 c1 c2 c3 c4 c5 c6; obtain ⟨c0, c1, c2, c3, c4, c5, c6⟩ := hS2.1.cs; have HS2 := hideL hS2; have HR2 := hideL hr2; clear hS2 hr2 hb2 HR1 HS1)
      | (go_at_call 43; have hq := HR2; clear hq; refine (appN8 (w.heap.size + 1) v2 _ _ _ HR2.out HS2.out.2.2 HF.out (by simp [digs, sb_length]; try omega)).mono ?_; rintro e w3 ⟨v3, rfl, hr3, hb3⟩; have hS3 := HS2.out.step hb3; clear c0 c1 c2 c3 c4 c5 c6; obtain ⟨c0, c1, c2, c3, c4, c5, c6⟩ := hS3.1.cs; have HS3 := hideL hS3; have HR3 := hideL hr3; clear hS3 hr3 hb3 HR2 HS2)
      | (go_at_call 43; have hq := HR3; clear hq; refine (appN8 (w.heap.size + 1) v3 _ _ _ HR3.out HS3.out.2.2 HV.out (by simp [digs, sb_length]; try omega)).mono ?_; rintro e w4 ⟨v4, rfl, hr4, hb4⟩; have hS4 := HS3.out.step hb4; clear c0 c1 c2 c3 c4 c5 c6; obtain ⟨c0, c1, c2, c3, c4, c5, c6⟩ := hS4.1.cs; have HS4 := hideL hS4; have HR4 := hideL hr4; clear hS4 hr4 hb4 HR3 HS3)
      | (go_at_call 44; have hq := HR4; clear hq; refine (appT4 (w.heap.size + 1) v4 _ _ _ HR4.out HS4.out.2.2 (by have := HT.out; omega) (by simp [digs]; try omega)).mono ?_; rintro e w5 ⟨v5, rfl, hr5, hb5⟩; have hS5 := HS4.out.step hb5; clear c0 c1 c2 c3 c4 c5 c6; obtain ⟨c0, c1, c2, c3, c4, c5, c6⟩ := hS5.1.cs; have HS5 := hideL hS5; have HR5 := hideL hr5; clear hS5 hr5 hb5 HR4 HS4))
    go_ret
    exact ⟨v5, rfl, HR5.out.mono (by omega), HS5.out.2.1⟩
  by_cases k3 : kind = 3
  · subst k3
    have hP : payM { kind := 3, name := name, ver := ver, frm := frm, non := non, err := err, text := text } = [3] ++ digs 8 non ++ digs 8 ver := by simp [payM]
    have hO : okM { kind := 3, name := name, ver := ver, frm := frm, non := non, err := err, text := text } = (num non && num ver) := rfl
    rw [hO] at ho
    simp only [Bool.and_eq_true] at ho
    obtain ⟨ha, hv⟩ := ho
    rw [hP]
    clear hP hO
    have HA := hideL ha
    have HV := hideL hv
    clear ha hv
    simp only [mv, mcs] at *
    go_enter Tryd.func30, Tryd.ntmps30
    go_wp2_with (first
      | (go_at_call 43; have hq := hS; clear hq; refine (appN1 (w.heap.size + 1) _ _ (by simp) (by decide) (by decide)).mono ?_; rintro e w1 ⟨v1, rfl, hr1, hb1⟩; have hS1 := hS.step hb1; obtain ⟨c0, c1, c2, c3, c4, c5, c6⟩ := hS1.1.cs; have HS1 := hideL hS1; have HR1 := hideL hr1; clear hS1 hr1 hb1 hS)
      | (go_at_call 43; have hq := HR1; clear hq; refine (appN8 (w.heap.size + 1) v1 _ _ _ HR1.out HS1.out.2.2 HA.out (by simp [digs, sb_length]; try omega)).mono ?_; rintro e w2 ⟨v2, rfl, hr2, hb2⟩; have hS2 := HS1.out.step hb2; clear c0 c1 c2 c3 c4 c5 c6; obtain ⟨c0, c1, c2, c3, c4, c5, c6⟩ := hS2.1.cs; have HS2 := hideL hS2; have HR2 := hideL hr2; clear hS2 hr2 hb2 HR1 HS1)
      | (go_at_call 43; have hq := HR2; clear hq; refine (appN8 (w.heap.size + 1) v2 _ _ _ HR2.out HS2.out.2.2 HV.out (by simp [digs, sb_length]; try omega)).mono ?_; rintro e w3 ⟨v3, rfl, hr3, hb3⟩; have hS3 := HS2.out.step hb3; clear c0 c1 c2 c3 c4 c5 c6; obtain ⟨c0, c1, c2, c3, c4, c5, c6⟩ := hS3.1.cs; have HS3 := hideL hS3; have HR3 := hideL hr3; clear hS3 hr3 hb3 HR2 HS2))
    go_ret
    exact ⟨v3, rfl, HR3.out.mono (by omega), HS3.out.2.1⟩
  by_cases k4 : kind = 4
  · subst k4
    have hP : payM { kind := 4, name := name, ver := ver, frm := frm, non := non, err := err, text := text } = [4] ++ digs 8 non ++ digs 8 ver ++ digs 2 err := by simp [payM]
    have hO : okM { kind := 4, name := name, ver := ver, frm := frm, non := non, err := err, text := text } = (num non && num ver && decide (1 ≤ err ∧ err ≤ 65535)) := rfl
    rw [hO] at ho
    simp only [Bool.and_eq_true, decide_eq_true_eq] at ho
    obtain ⟨⟨ha, hv⟩, he⟩ := ho
    rw [hP]
    clear hP hO
    have HA := hideL ha
    have HV := hideL hv
    have HE := hideL he
    clear ha hv he
    simp only [mv, mcs] at *
    go_enter Tryd.func30, Tryd.ntmps30
    go_wp2_with (first
      | (go_at_call 43; have hq := hS; clear hq; refine (appN1 (w.heap.size + 1) _ _ (by simp) (by decide) (by decide)).mono ?_; rintro e w1 ⟨v1, rfl, hr1, hb1⟩; have hS1 := hS.step hb1; obtain ⟨c0, c1, c2, c3, c4, c5, c6⟩ := hS1.1.cs; have HS1 := hideL hS1; have HR1 := hideL hr1; clear hS1 hr1 hb1 hS)
      | (go_at_call 43; have hq := HR1; clear hq; refine (appN8 (w.heap.size + 1) v1 _ _ _ HR1.out HS1.out.2.2 HA.out (by simp [digs, sb_length]; try omega)).mono ?_; rintro e w2 ⟨v2, rfl, hr2, hb2⟩; have hS2 := HS1.out.step hb2; clear c0 c1 c2 c3 c4 c5 c6; obtain ⟨c0, c1, c2, c3, c4, c5, c6⟩ := hS2.1.cs; have HS2 := hideL hS2; have HR2 := hideL hr2; clear hS2 hr2 hb2 HR1 HS1)
      | (go_at_call 43; have hq := HR2; clear hq; refine (appN8 (w.heap.size + 1) v2 _ _ _ HR2.out HS2.out.2.2 HV.out (by simp [digs, sb_length]; try omega)).mono ?_; rintro e w3 ⟨v3, rfl, hr3, hb3⟩; have hS3 := HS2.out.step hb3; clear c0 c1 c2 c3 c4 c5 c6; obtain ⟨c0, c1, c2, c3, c4, c5, c6⟩ := hS3.1.cs; have HS3 := hideL hS3; have HR3 := hideL hr3; clear hS3 hr3 hb3 HR2 HS2)
      | (go_at_call 43; have hq := HR3; clear hq; refine (appN2 (w.heap.size + 1) v3 _ _ _ HR3.out HS3.out.2.2 (by have := HE.out; omega) (by have := HE.out; omega) (by simp [digs, sb_length]; try omega)).mono ?_; rintro e w4 ⟨v4, rfl, hr4, hb4⟩; have hS4 := HS3.out.step hb4; clear c0 c1 c2 c3 c4 c5 c6; obtain ⟨c0, c1, c2, c3, c4, c5, c6⟩ := hS4.1.cs; have HS4 := hideL hS4; have HR4 := hideL hr4; clear hS4 hr4 hb4 HR3 HS3))
    go_ret
    exact ⟨v4, rfl, HR4.out.mono (by omega), HS4.out.2.1⟩
  by_cases k5 : kind = 5
  · subst k5
    have hP : payM { kind := 5, name := name, ver := ver, frm := frm, non := non, err := err, text := text } = [5] ++ digs 8 non := by simp [payM]
    have hO : okM { kind := 5, name := name, ver := ver, frm := frm, non := non, err := err, text := text } = num non := rfl
    rw [hO] at ho
    have ha := ho
    clear ho
    rw [hP]
    clear hP hO
    have HA := hideL ha
    clear ha
    simp only [mv, mcs] at *
    go_enter Tryd.func30, Tryd.ntmps30
    go_wp2_with (first
      | (go_at_call 43; have hq := hS; clear hq; refine (appN1 (w.heap.size + 1) _ _ (by simp) (by decide) (by decide)).mono ?_; rintro e w1 ⟨v1, rfl, hr1, hb1⟩; have hS1 := hS.step hb1; obtain ⟨c0, c1, c2, c3, c4, c5, c6⟩ := hS1.1.cs; have HS1 := hideL hS1; have HR1 := hideL hr1; clear hS1 hr1 hb1 hS)
      | (go_at_call 43; have hq := HR1; clear hq; refine (appN8 (w.heap.size + 1) v1 _ _ _ HR1.out HS1.out.2.2 HA.out (by simp [digs, sb_length]; try omega)).mono ?_; rintro e w2 ⟨v2, rfl, hr2, hb2⟩; have hS2 := HS1.out.step hb2; clear c0 c1 c2 c3 c4 c5 c6; obtain ⟨c0, c1, c2, c3, c4, c5, c6⟩ := hS2.1.cs; have HS2 := hideL hS2; have HR2 := hideL hr2; clear hS2 hr2 hb2 HR1 HS1))
    go_ret
    exact ⟨v2, rfl, HR2.out.mono (by omega), HS2.out.2.1⟩
  · exfalso
    unfold okM at ho
    rw [if_neg k1, if_neg k2, if_neg k3, if_neg k4, if_neg k5] at ho
    cases ho
end Go.Proofs.YteeclghhoioapaaDoor
