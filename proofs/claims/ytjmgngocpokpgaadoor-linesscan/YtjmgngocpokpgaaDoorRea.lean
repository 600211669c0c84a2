/-
  A line read: lines.read's contract.
-/
import Derived.Test.YtjmgngocpokpgaaDoorRea2
namespace Go.Proofs.YtjmgngocpokpgaaDoor
open Go.RowKit
set_option linter.unusedVariables false
set_option linter.unusedSimpArgs false
theorem doc_first {l : List UInt8} (h : docF l = true) : l[0]? = some 45 ∧ 3 ≤ l.length := by
  unfold docF at h
  have hp : Lib.hasPrefix l [45, 45, 45] = true := by
    rcases h' : Lib.hasPrefix l [45, 45, 45] with _ | _
    · rw [h'] at h; cases h
    · rfl
  unfold Lib.hasPrefix at hp
  obtain ⟨r, rfl⟩ := List.isPrefixOf_iff_prefix.1 hp
  exact ⟨rfl, by simp⟩
theorem skp_end (l : List UInt8) (p : Nat) (h : l.length ≤ p) : skpF l p = l.length := by
  unfold skpF
  rw [List.drop_eq_nil_of_le h]
  simp [Lib.trimLeftB]
set_option maxHeartbeats 8000000 in
theorem read_any (l : List UInt8) (num m : Int) (w : World) (hs : l.length ≤ 2 ^ 30) (hm : w.cell? ⟨0, 0, none⟩ = some (.int .i64 m)) :
    Calls Tryd.prog 29 #[.string ⟨l.toArray⟩, .int .i64 num] w (RdE w l num) := by
  have hsz : (ByteArray.mk l.toArray).size ≤ maxLen := by unfold maxLen; show l.length ≤ _; omega
  have c30 := fun W => stray_any ⟨l.toArray⟩ W hsz
  have es : strF (ByteArray.mk l.toArray).data.toList = strF l := rfl
  rw [es] at c30
  have hR0 : Rd (w.alloc (.cells #[.string ⟨l.toArray⟩, .int .i64 num, .int .i64 0, .slice none 0 0] 68)) w.heap.size w.heap.size l num 0 (.slice none 0 0) [] := ⟨Go.heap_alloc_new w _, World.ownsRow_nil _ _ _ _, Nat.le_refl _⟩
  have hB0 : Below w.heap.size w (w.alloc (.cells #[.string ⟨l.toArray⟩, .int .i64 num, .int .i64 0, .slice none 0 0] 68)) := (Below.refl _ w).alloc (Nat.le_refl _) _
  have HR0 := hide2 hR0
  have HB0 := hide2 hB0
  clear hR0 hB0
  go_enter Tryd.func29, Tryd.ntmps29
  go_wp2
  refine wp_scope_many (JJ w l num) (mu w l) ?first ?pass
  case first =>
    by_cases h0 : strF l = 0
    · have HN : Hid (readF l num = if docF l = true then ([⟨1, num, 0, [], quoF (((l[0]?).getD 0).toNat)⟩], 0) else conF num l (l.length + 1) (skpF l 0) []) := by show _ = _; rw [readF, if_neg (by simp [h0])]
      rcases hdc : docF l with _ | _
      · rw [hdc, if_neg (by simp)] at HN
        have c38 := fun W => doc_any l W hs
        simp only [hdc] at c38
        go_wp2_with fail
        refine (c30 _).mono ?_
        rintro e w1 ⟨rfl, hw1⟩
        subst hw1
        go_wp2_with fail
        refine (c38 _).mono ?_
        rintro e w1 ⟨rfl, hw1⟩
        subst hw1
        go_wp2_with fail
        refine (skip_rd HR0.out hs (Nat.zero_le _)).mono ?_
        rintro e w2 ⟨rfl, R2, B2⟩
        have HR2 := hide2 R2
        have HB2 := hide2 (HB0.out.trans B2)
        clear R2 B2
        go_wp2_with fail
        go_step3
        refine (‹∀ (a' : Act) (w' : World), Code.wp Tryd.prog _ (jmps (JJ w l num) (bodyPost Tryd.prog Tryd.f29 (RdE w l num))) a' w' → _› _ _ ?_)
        refine rest_wp (at2 l num m w hs hm (JJ w l num) _ _ (fun _ _ h => h) (fun _ _ h => h) (fun _ _ h => h) (fun _ _ h => h) (fun _ _ h _ => h) ?_) rfl
        exact ⟨⟨rfl, rfl, rfl⟩, l.length + 1, _, _, [], ⟨HR2.out, skpF_le _ _, Nat.zero_le _, HB2.out⟩, by omega, HN.out⟩
      · obtain ⟨i0, i3⟩ := doc_first hdc
        rw [hdc, if_pos rfl, i0] at HN
        have c38 := fun W => doc_any l W hs
        simp only [hdc] at c38
        go_wp2_with fail
        refine (c30 _).mono ?_
        rintro e w1 ⟨rfl, hw1⟩
        subst hw1
        go_wp2_with fail
        refine (c38 _).mono ?_
        rintro e w1 ⟨rfl, hw1⟩
        subst hw1
        go_wp2_with fail
        refine (take_any l num 0 w.heap.size w.heap.size _ [] 1 l.length [] 45 _ (by omega) (by omega) i0 (by omega) (by simp) HB0.out.size HR0.out).mono ?_
        rintro e w2 ⟨rfl, tv', R2, B2⟩
        have HR2 := hide2 R2
        have HB2 := hide2 (HB0.out.trans B2)
        clear R2 B2
        go_wp2_with fail
        go_step3
        exact ⟨⟨rfl, rfl, rfl⟩, _, tv', _, HR2.out, HB2.out, HN.out⟩
    · have HN : Hid (readF l num = ([], strF l)) := by show _ = _; rw [readF, if_pos h0]
      have h0' : (strF l != 0) = true := by simpa using h0
      go_wp2_with fail
      refine (c30 _).mono ?_
      rintro e w1 ⟨rfl, hw1⟩
      subst hw1
      go_wp2_with fail
      go_step3
      exact ⟨rfl, rfl, _, rfl, HN.out, h0, HB0.out⟩
  case pass =>
    intro j a w1 hj
    match j, hj with
    | 0, hj => exact at0 l num w _ a w1 hj
    | 1, hj => exact at1 l num w _ a w1 hj
    | 2, hj => exact skip_wp (at2 l num m w hs hm _ a w1 (fun _ _ h => ⟨h, by simp [mu]; omega⟩) (fun _ _ h => ⟨h, by simp [mu]; omega⟩) (fun _ _ h => ⟨h, by simp [mu]; omega⟩) (fun _ _ h => ⟨h, by simp [mu]; omega⟩) (fun _ _ h hl => ⟨h, by simp [mu]; omega⟩) hj)
    | 3, hj => exact skip_wp (at3 l num m w hs hm _ (fun _ _ h => ⟨h, by simp [mu]⟩) (fun _ _ h => ⟨h, by simp [mu]⟩) (fun _ _ h => ⟨h, by simp [mu]⟩) a w1 hj)
    | 4, hj => exact at4 l num w hs _ (fun _ _ h => ⟨h, by simp [mu]⟩) a w1 hj
    | (_ + 5), hj => exact hj.elim
end Go.Proofs.YtjmgngocpokpgaaDoor
