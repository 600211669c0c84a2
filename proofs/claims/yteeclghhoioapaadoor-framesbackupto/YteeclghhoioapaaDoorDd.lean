/-
  Decode's walk.
-/
import Derived.Test.YteeclghhoioapaaDoorDc
import Derived.ScopeJumps
import Derived.WalkMore
namespace Go.Proofs.YteeclghhoioapaaDoor
open Go.RowKit
set_option linter.unusedVariables false
set_option linter.unusedSimpArgs false
set_option maxRecDepth 100000
theorem wp_scope_once {P : Program} {a : Act} {w : World} {Q : Exit → Act → World → Prop} {c rest : Code} (l : Nat) (hf : findLabel c l = some rest)
    (h : c.wp P (Exit.jump l (fun a' w' => rest.wp P (Exit.noGoto Q) a' w') Q) a w) : (Code.scope c).wp P Q a w :=
  wp_scope_jumps l _ (fun _ _ => 0) hf h (fun a w hJ => Code.wp_mono (fun e a' w' hq => by
    cases e with
    | goto l' => exact hq.elim
    | _ => exact hq) hJ)
theorem jump_ret {l : Nat} {J : Act → World → Prop} {Q : Exit → Act → World → Prop} {a : Act} {w : World} (h : Q .ret a w) : Exit.jump l J Q .ret a w := h
theorem jump_goto {l : Nat} {J : Act → World → Prop} {Q : Exit → Act → World → Prop} {a : Act} {w : World} (h : J a w) : Exit.jump l J Q (.goto l) a w := ⟨rfl, h⟩
theorem p7 {w : World} {B : Nat} {a0 a1 a2 a3 a4 a5 a6 : Value} {t : TypeId} (h : w.heap[B]? = some (.cells #[a0, a1, a2, a3, a4, a5, a6] t (0, 0))) :
    w.cell? ⟨B, 0, none⟩ = some a0 ∧ w.cell? ⟨B, 1, none⟩ = some a1 ∧ w.cell? ⟨B, 2, none⟩ = some a2 ∧ w.cell? ⟨B, 3, none⟩ = some a3 ∧ w.cell? ⟨B, 4, none⟩ = some a4 ∧ w.cell? ⟨B, 5, none⟩ = some a5 ∧ w.cell? ⟨B, 6, none⟩ = some a6 := by
  refine ⟨?_, ?_, ?_, ?_, ?_, ?_, ?_⟩ <;> (rw [cell_of_row w B _ _ t _ h]; rfl)
theorem zero_cs {w : World} {B : Nat} {t : TypeId} (h : w.heap[B]? = some (.cells (mcs zeroM).toArray t (0, 0))) :
    w.cell? ⟨B, 0, none⟩ = some (.int .i64 0) ∧ w.cell? ⟨B, 1, none⟩ = some (.string ByteArray.empty) ∧ w.cell? ⟨B, 2, none⟩ = some (.int .i64 0) ∧ w.cell? ⟨B, 3, none⟩ = some (.int .i64 0) ∧ w.cell? ⟨B, 4, none⟩ = some (.int .i64 0) ∧ w.cell? ⟨B, 5, none⟩ = some (.int .i64 0) ∧ w.cell? ⟨B, 6, none⟩ = some (.string ByteArray.empty) ∧
    w.frozen? ⟨B, 0, none⟩ = false ∧ w.frozen? ⟨B, 1, none⟩ = false ∧ w.frozen? ⟨B, 2, none⟩ = false ∧ w.frozen? ⟨B, 3, none⟩ = false ∧ w.frozen? ⟨B, 4, none⟩ = false ∧ w.frozen? ⟨B, 5, none⟩ = false ∧ w.frozen? ⟨B, 6, none⟩ = false := cs7 h
set_option maxHeartbeats 4000000 in
theorem decode1 (a : Option Addr) (n cap : Nat) (zs : List Int) (w : World) (h : Bs w a n cap zs) (h4 : n < 4) :
    Calls Tryd.prog 13 #[.slice a n cap] w fun e w' => DecE w zs e w' := by
  have hE : decM zs = (zeroM, 0, 10) := by unfold decM; rw [if_pos (by rw [h.len]; exact h4)]
  unfold DecE
  rw [hE]
  have hb := hideL (fun o o' => ((Below.refl w.heap.size w).alloc (Nat.le_refl _) o).alloc (by simp) o')
  have h4i : (n : Int) < 4 := by omega
  clear h hE
  simp only [mv, zeroM]
  go_enter Tryd.func13, Tryd.ntmps13
  go_wp2_with fail
  refine wp_scope_once 0 rfl ?_
  go_wp2_with fail
  go_step3
  go_wp2_with fail
  refine jump_goto ?_
  go_wp2
  rw [Exit.noGoto_ret]
  refine bodyPost_ret (v := .tuple #[.agg #[.int .i64 0, .string ByteArray.empty, .int .i64 0, .int .i64 0, .int .i64 0, .int .i64 0, .string ByteArray.empty], .int .i64 0, .int .i64 10]) (by simp [results, Tryd.results13, go_sem] <;> rfl) rfl ⟨rfl, hb.out _ _⟩
set_option maxHeartbeats 8000000 in
theorem decode2 (a : Option Addr) (n cap : Nat) (zs : List Int) (w : World) (h : Bs w a n cap zs) (hT : Tab w) (h4 : ¬ n < 4) (h5 : 131072 < lenM zs) :
    Calls Tryd.prog 13 #[.slice a n cap] w fun e w' => DecE w zs e w' := by
  have hE : decM zs = (zeroM, 0, 190) := by unfold decM; rw [if_neg (by rw [h.len]; exact h4), if_pos h5]
  unfold DecE
  rw [hE]
  obtain ⟨L, hL⟩ : ∃ L : Int, (lenM zs : Int) = L := ⟨_, rfl⟩
  have hL32 : 0 ≤ L ∧ L < 4294967296 := by
    have h1 := lenM_val zs h.oct
    have h2 := val_bd _ (h.oct.take 4)
    have h3 : (zs.take 4).length ≤ 4 := by rw [List.length_take]; omega
    have := (by decide +kernel : ∀ v : Nat, v ≤ 4 → (256 : Int) ^ v ≤ 256 ^ 4) _ h3
    have h6 : (256 : Int) ^ 4 = 4294967296 := by decide
    omega
  have HLL : Hid (sgn (val (zs.take 4)) = L) := by
    have h1 := lenM_val zs h.oct
    show sgn _ = _
    unfold sgn; rw [if_pos (by omega), ← h1, hL]
  obtain ⟨hLa, hLb⟩ := hL32
  have h4i : (4 : Int) ≤ n := by omega
  have h4c : (4 : Int) ≤ cap := by have := h.fits; omega
  have h5i : L > 131072 := by omega
  have hD0 := Dh.start w
  have HD := hideL hD0
  have HT := hideL ((hT.below hD0.bel hT.pos))
  have HB := hideL (h.below hD0.bel)
  have hl := h.len; have hf := h.fits; have hcm := h.cap; unfold maxLen at hcm
  have HCF := hideL (And.intro hl hL)
  clear hE hD0 hT h hl hL h5
  have Hh5i := hideL h5i
  clear h5i
  have HhLa := hideL hLa
  clear hLa
  have HhLb := hideL hLb
  clear hLb
  simp only [mv, zeroM, mcs] at HD HT HB ⊢
  go_enter Tryd.func13, Tryd.ntmps13
  go_wp2_with fail
  refine wp_scope_once 0 rfl ?_
  go_wp2_with (first
    | (go_at_call 33; have hq := HT; clear hq; have hq := HB.out.take 4 (by omega); refine (njoin_any a 4 cap (zs.take 4) _ hq.len hq.has hq.oct (by omega)).mono ?_; rintro e wb ⟨rfl, hb⟩; rw [HLL.out]; have HD1 := hideL (HD.out.below hb); have HT1 := hideL (HT.out.below hb HT.out.pos); have HB1 := hideL (HB.out.below hb); clear hq hb HD HT HB; have HD := HD1; clear HD1; obtain ⟨r0, r1, r2, r3, r4, r5, r6, q0, q1, q2, q3, q4, q5, q6⟩ := zero_cs HD.out.rx; have h5i := Hh5i.out; have hLa := HhLa.out; have hLb := HhLb.out))
  go_step3
  go_wp2_with fail
  refine jump_goto ?_
  go_wp2_with fail
  have hP := put7_spec (R := w.heap.size) HD.out.rx (.int .i64 0) (.string ⟨#[]⟩) (.int .i64 0) (.int .i64 0) (.int .i64 0) (.int .i64 0) (.string ⟨#[]⟩)
  have hO := hideL (Bt.under HD.out.bel hP.2 (Nat.le_refl _))
  unfold put7 at hP hO
  obtain ⟨V7, hV7⟩ : ∃ V7, (((((((wb.setCell ⟨w.heap.size, 0, none⟩ (.int .i64 0)).setCell ⟨w.heap.size, 1, none⟩ (.string ⟨#[]⟩)).setCell ⟨w.heap.size, 2, none⟩ (.int .i64 0)).setCell ⟨w.heap.size, 3, none⟩ (.int .i64 0)).setCell ⟨w.heap.size, 4, none⟩ (.int .i64 0)).setCell ⟨w.heap.size, 5, none⟩ (.int .i64 0)).setCell ⟨w.heap.size, 6, none⟩ (.string ⟨#[]⟩)) = V7 := ⟨_, rfl⟩
  rw [hV7] at hP hO ⊢
  obtain ⟨p0, p1, p2, p3, p4, p5, p6⟩ := p7 hP.1
  rw [Exit.noGoto_ret]
  refine bodyPost_ret (v := .tuple #[.agg #[.int .i64 0, .string ⟨#[]⟩, .int .i64 0, .int .i64 0, .int .i64 0, .int .i64 0, .string ⟨#[]⟩], .int .i64 0, .int .i64 190]) (by simp [results, Tryd.results13, go_sem, p0, p1, p2, p3, p4, p5, p6] <;> rfl) rfl ⟨rfl, hO.out⟩
set_option maxHeartbeats 8000000 in
theorem decode3 (a : Option Addr) (n cap : Nat) (zs : List Int) (w : World) (h : Bs w a n cap zs) (hT : Tab w) (h4 : ¬ n < 4) (h5 : ¬ 131072 < lenM zs) (h6 : n < 8 + lenM zs) :
    Calls Tryd.prog 13 #[.slice a n cap] w fun e w' => DecE w zs e w' := by
  have hE : decM zs = (zeroM, 0, 10) := by unfold decM; rw [if_neg (by rw [h.len]; exact h4), if_neg h5, if_pos (by rw [h.len]; exact h6)]
  unfold DecE
  rw [hE]
  obtain ⟨L, hL⟩ : ∃ L : Int, (lenM zs : Int) = L := ⟨_, rfl⟩
  have hL32 : 0 ≤ L ∧ L < 4294967296 := by
    have h1 := lenM_val zs h.oct
    have h2 := val_bd _ (h.oct.take 4)
    have h3 : (zs.take 4).length ≤ 4 := by rw [List.length_take]; omega
    have := (by decide +kernel : ∀ v : Nat, v ≤ 4 → (256 : Int) ^ v ≤ 256 ^ 4) _ h3
    have h6 : (256 : Int) ^ 4 = 4294967296 := by decide
    omega
  have HLL : Hid (sgn (val (zs.take 4)) = L) := by
    have h1 := lenM_val zs h.oct
    show sgn _ = _
    unfold sgn; rw [if_pos (by omega), ← h1, hL]
  obtain ⟨hLa, hLb⟩ := hL32
  have h4i : (4 : Int) ≤ n := by omega
  have h4c : (4 : Int) ≤ cap := by have := h.fits; omega
  have h5i : L ≤ 131072 := by omega
  have h6i : (n : Int) < 8 + L := by omega
  have hD0 := Dh.start w
  have HD := hideL hD0
  have HT := hideL ((hT.below hD0.bel hT.pos))
  have HB := hideL (h.below hD0.bel)
  have hl := h.len; have hf := h.fits; have hcm := h.cap; unfold maxLen at hcm
  have HCF := hideL (And.intro hl hL)
  clear hE hD0 hT h hl hL h5 h6
  have Hh5i := hideL h5i
  clear h5i
  have Hh6i := hideL h6i
  clear h6i
  have HhLa := hideL hLa
  clear hLa
  have HhLb := hideL hLb
  clear hLb
  simp only [mv, zeroM, mcs] at HD HT HB ⊢
  go_enter Tryd.func13, Tryd.ntmps13
  go_wp2_with fail
  refine wp_scope_once 0 rfl ?_
  go_wp2_with (first
    | (go_at_call 33; have hq := HT; clear hq; have hq := HB.out.take 4 (by omega); refine (njoin_any a 4 cap (zs.take 4) _ hq.len hq.has hq.oct (by omega)).mono ?_; rintro e wb ⟨rfl, hb⟩; rw [HLL.out]; have HD1 := hideL (HD.out.below hb); have HT1 := hideL (HT.out.below hb HT.out.pos); have HB1 := hideL (HB.out.below hb); clear hq hb HD HT HB; have HD := HD1; clear HD1; obtain ⟨r0, r1, r2, r3, r4, r5, r6, q0, q1, q2, q3, q4, q5, q6⟩ := zero_cs HD.out.rx; have h5i := Hh5i.out; have h6i := Hh6i.out; have hLa := HhLa.out; have hLb := HhLb.out))
  go_step3
  go_wp2_with fail
  refine jump_goto ?_
  go_wp2_with fail
  have hP := put7_spec (R := w.heap.size) HD.out.rx (.int .i64 0) (.string ⟨#[]⟩) (.int .i64 0) (.int .i64 0) (.int .i64 0) (.int .i64 0) (.string ⟨#[]⟩)
  have hO := hideL (Bt.under HD.out.bel hP.2 (Nat.le_refl _))
  unfold put7 at hP hO
  obtain ⟨V7, hV7⟩ : ∃ V7, (((((((wb.setCell ⟨w.heap.size, 0, none⟩ (.int .i64 0)).setCell ⟨w.heap.size, 1, none⟩ (.string ⟨#[]⟩)).setCell ⟨w.heap.size, 2, none⟩ (.int .i64 0)).setCell ⟨w.heap.size, 3, none⟩ (.int .i64 0)).setCell ⟨w.heap.size, 4, none⟩ (.int .i64 0)).setCell ⟨w.heap.size, 5, none⟩ (.int .i64 0)).setCell ⟨w.heap.size, 6, none⟩ (.string ⟨#[]⟩)) = V7 := ⟨_, rfl⟩
  rw [hV7] at hP hO ⊢
  obtain ⟨p0, p1, p2, p3, p4, p5, p6⟩ := p7 hP.1
  rw [Exit.noGoto_ret]
  refine bodyPost_ret (v := .tuple #[.agg #[.int .i64 0, .string ⟨#[]⟩, .int .i64 0, .int .i64 0, .int .i64 0, .int .i64 0, .string ⟨#[]⟩], .int .i64 0, .int .i64 10]) (by simp [results, Tryd.results13, go_sem, p0, p1, p2, p3, p4, p5, p6] <;> rfl) rfl ⟨rfl, hO.out⟩
set_option maxHeartbeats 8000000 in
theorem decode4 (a : Option Addr) (n cap : Nat) (zs : List Int) (w : World) (h : Bs w a n cap zs) (hT : Tab w) (h4 : ¬ n < 4) (h5 : ¬ 131072 < lenM zs) (h6 : ¬ n < 8 + lenM zs) (h7 : ¬ isFr zs = true) :
    Calls Tryd.prog 13 #[.slice a n cap] w fun e w' => DecE w zs e w' := by
  have hE : decM zs = (zeroM, 0, 190) := by unfold decM; rw [if_neg (by rw [h.len]; exact h4), if_neg h5, if_neg (by rw [h.len]; exact h6), if_neg h7]
  unfold DecE
  rw [hE]
  obtain ⟨L, hL⟩ : ∃ L : Int, (lenM zs : Int) = L := ⟨_, rfl⟩
  have hL32 : 0 ≤ L ∧ L < 4294967296 := by
    have h1 := lenM_val zs h.oct
    have h2 := val_bd _ (h.oct.take 4)
    have h3 : (zs.take 4).length ≤ 4 := by rw [List.length_take]; omega
    have := (by decide +kernel : ∀ v : Nat, v ≤ 4 → (256 : Int) ^ v ≤ 256 ^ 4) _ h3
    have h6 : (256 : Int) ^ 4 = 4294967296 := by decide
    omega
  have HLL : Hid (sgn (val (zs.take 4)) = L) := by
    have h1 := lenM_val zs h.oct
    show sgn _ = _
    unfold sgn; rw [if_pos (by omega), ← h1, hL]
  obtain ⟨hLa, hLb⟩ := hL32
  have h4i : (4 : Int) ≤ n := by omega
  have h4c : (4 : Int) ≤ cap := by have := h.fits; omega
  have h5i : L ≤ 131072 := by omega
  have h6i : 8 + L ≤ (n : Int) := by omega
  have h7i : 8 + L ≤ (cap : Int) := by have := h.fits; omega
  have HNN : Hid ((8 + L).toNat = 8 + lenM zs) := by show _ = _; omega
  have HNX : Hid True := trivial
  have HNO : Hid (∀ N, ¬ IsRec (zs.take (8 + lenM zs)) N) := fun N hN => by
    have h8 := rec_len _ N (by rw [List.length_take, h.len]; omega) (h.oct.take _) hN
    rw [lenM_take _ _ (by omega)] at h8
    subst h8
    exact h7 ((isFr_iff zs h.oct (by omega) (by rw [h.len]; omega)).2 hN)
  have hD0 := Dh.start w
  have HD := hideL hD0
  have HT := hideL ((hT.below hD0.bel hT.pos))
  have HB := hideL (h.below hD0.bel)
  have hl := h.len; have hf := h.fits; have hcm := h.cap; unfold maxLen at hcm
  have HCF := hideL (And.intro hl hL)
  clear hE hD0 hT h hl hL
  have Hh5i := hideL h5i
  clear h5i
  have Hh6i := hideL h6i
  clear h6i
  have Hh7i := hideL h7i
  clear h7i
  have HhLa := hideL hLa
  clear hLa
  have HhLb := hideL hLb
  clear hLb
  simp only [mv, zeroM, mcs] at HD HT HB ⊢
  go_enter Tryd.func13, Tryd.ntmps13
  go_wp2_with fail
  refine wp_scope_once 0 rfl ?_
  go_wp2_with (first
    | (go_at_call 33; have hq := HT; clear hq; have hq := HB.out.take 4 (by omega); refine (njoin_any a 4 cap (zs.take 4) _ hq.len hq.has hq.oct (by omega)).mono ?_; rintro e wb ⟨rfl, hb⟩; rw [HLL.out]; have HD1 := hideL (HD.out.below hb); have HT1 := hideL (HT.out.below hb HT.out.pos); have HB1 := hideL (HB.out.below hb); clear hq hb HD HT HB; have HD := HD1; clear HD1; obtain ⟨r0, r1, r2, r3, r4, r5, r6, q0, q1, q2, q3, q4, q5, q6⟩ := zero_cs HD.out.rx; have h5i := Hh5i.out; have h6i := Hh6i.out; have h7i := Hh7i.out; have hLa := HhLa.out; have hLb := HhLb.out)
    | (go_at_call 34; have hq := HNX; clear hq; rw [HNN.out]; have hq := HB1.out.take (8 + lenM zs) (by omega); refine (next_any a _ cap (zs.take (8 + lenM zs)) _ hq.len hq.has hq.fits hq.cap hq.oct HT1.out).mono ?_; rintro e wc ⟨hb, hx⟩; rcases hx with ⟨-, rfl⟩ | ⟨N, g, hx, -⟩; rotate_left; { exact (HNO.out N hx).elim }; have HD1 := hideL (HD.out.below hb); clear hq hb HD r0 r1 r2 r3 r4 r5 r6 q0 q1 q2 q3 q4 q5 q6; have HD := HD1; clear HD1 HNX; obtain ⟨r0, r1, r2, r3, r4, r5, r6, q0, q1, q2, q3, q4, q5, q6⟩ := zero_cs HD.out.rx))
  go_step3
  go_wp2_with fail
  refine jump_goto ?_
  go_wp2_with fail
  have hP := put7_spec (R := w.heap.size) HD.out.rx (.int .i64 0) (.string ⟨#[]⟩) (.int .i64 0) (.int .i64 0) (.int .i64 0) (.int .i64 0) (.string ⟨#[]⟩)
  have hO := hideL (Bt.under HD.out.bel hP.2 (Nat.le_refl _))
  unfold put7 at hP hO
  obtain ⟨V7, hV7⟩ : ∃ V7, (((((((wc.setCell ⟨w.heap.size, 0, none⟩ (.int .i64 0)).setCell ⟨w.heap.size, 1, none⟩ (.string ⟨#[]⟩)).setCell ⟨w.heap.size, 2, none⟩ (.int .i64 0)).setCell ⟨w.heap.size, 3, none⟩ (.int .i64 0)).setCell ⟨w.heap.size, 4, none⟩ (.int .i64 0)).setCell ⟨w.heap.size, 5, none⟩ (.int .i64 0)).setCell ⟨w.heap.size, 6, none⟩ (.string ⟨#[]⟩)) = V7 := ⟨_, rfl⟩
  rw [hV7] at hP hO ⊢
  obtain ⟨p0, p1, p2, p3, p4, p5, p6⟩ := p7 hP.1
  rw [Exit.noGoto_ret]
  refine bodyPost_ret (v := .tuple #[.agg #[.int .i64 0, .string ⟨#[]⟩, .int .i64 0, .int .i64 0, .int .i64 0, .int .i64 0, .string ⟨#[]⟩], .int .i64 0, .int .i64 190]) (by simp [results, Tryd.results13, go_sem, p0, p1, p2, p3, p4, p5, p6] <;> rfl) rfl ⟨rfl, hO.out⟩
end Go.Proofs.YteeclghhoioapaaDoor
