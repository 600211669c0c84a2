/-
  The scanner behind the whole part (made by a generator).
-/
import Derived.Test.YthfmepnlbaifcaaDoorSo
namespace Go.Proofs.YthfmepnlbaifcaaDoor
open Go.RowKit
set_option linter.unusedVariables false
set_option linter.unusedSimpArgs false
theorem dg_two {l : List UInt8} (hs : l.length ≤ 2 ^ 47) {p : Nat} (hp : p ≤ 2 ^ 47) {b1 b2 : Bool} (h1 : dgB l p = b1) (h2 : dgB l (p + 1) = b2) (z : Int) (b : Bool) (h : (z = (p : Int) ∧ b = b1) ∨ (z = (p : Int) + 1 ∧ b = b2)) (w : World) :
    Calls Tryd.prog 56 #[.string ⟨l.toArray⟩, .int .i64 z] w fun e w' => e = .returned (.bool b) ∧ w' = w := by
  rcases h with ⟨rfl, rfl⟩ | ⟨rfl, rfl⟩
  · exact dg_at l p _ rfl _ h1 w hs (by omega)
  · exact dg_at l (p + 1) _ (by omega) _ h2 w hs (by omega)
theorem beqE {a b : List UInt8} (h : a ≠ b) : (a == b) = false := by rw [beq_eq_false_iff_ne]; exact h
theorem pass0_T2 (l : List UInt8) (w : World) (hs : l.length ≤ 2 ^ 47) (Q : Exit → Act → World → Prop) (a : Act) (W : World) (k : Nat) (A : List UInt8) (hF : Fr l w.heap.size a (fM l + k) (fM l)) (hW : W = W2 w (hasM l) [] [] 0) (hk : k ≤ (unM l).length) (hAk : (unM l).take k = A) (hAl : A.length = k) (hAw : wholeOf (unM l) = A) (hc : k = (unM l).length) :
    ∃ rest, findLabel (scanOf Tryd.f37) 0 = some rest ∧ rest.wp Tryd.prog (jumps (fun l' a' w' => Jn l w l' a' w' ∧ μn l l' a' w' < μn l 0 a W) Q) a W := by
  subst hW
  have hlen := fM_le l
  rw [show μn l 0 a (W2 w (hasM l) [] [] 0) = 2 * l.length + 4 from rfl]
  obtain ⟨u, ha⟩ := hF.open_
  clear hF
  subst ha
  have hx0 : (ByteArray.mk l.toArray).extract (fM l) (fM l + k) = ⟨A.toArray⟩ := by rw [extract_mid, ← drop_M, Nat.add_sub_cancel_left, hAk]
  obtain ⟨p, hp⟩ : ∃ p, fM l + k = p := ⟨_, rfl⟩
  obtain ⟨f, hf⟩ : ∃ f, fM l = f := ⟨_, rfl⟩
  obtain ⟨m, hm⟩ : ∃ m, hasM l = m := ⟨_, rfl⟩
  have f0 : (0 : Int) ≤ f := by omega
  have fp : (f : Int) ≤ p := by omega
  have pl : (p : Int) ≤ l.length := by omega
  have pl2 : (p : Int) ≤ 140737488355328 := by omega
  have p40 : p ≤ 2 ^ 47 := by omega
  have he : (l.length : Int) = p := by omega
  have HH := hide2 (And.intro hlen (And.intro hp (And.intro hf (And.intro hm (And.intro hAk (And.intro hAl hAw))))))
  have HC := hide2 hc
  rw [hp, hf, hm]
  rw [hp, hf] at hx0
  refine ⟨_, rfl, ?_⟩
  clear hlen hp hf hm hk hAk hAl hAw hc
  unfold W2
  go_wp2
  go_step3
  obtain ⟨hlen, hp, hf, hm, hAk, hAl, hAw⟩ := HH.out
  refine ⟨⟨p, f, fr_mk _ _ _ _ _ rfl rfl rfl rfl (by first | rfl | (rw [← he]; rfl)) rfl, by rw [hm, hAw]; rfl, by rw [hAw, hAl]; exact List.drop_eq_nil_of_le (by have := HC.out; omega)⟩, ?_⟩
  rw [show ∀ x y, μn l 2 x y = 1 from fun _ _ => rfl]
  omega
theorem pass0_T3b (l : List UInt8) (w : World) (hs : l.length ≤ 2 ^ 47) (Q : Exit → Act → World → Prop) (a : Act) (W : World) (k : Nat) (A : List UInt8) (hF : Fr l w.heap.size a (fM l + k) (fM l)) (hW : W = W2 w (hasM l) [] [] 0) (hk : k ≤ (unM l).length) (hAk : (unM l).take k = A) (hAl : A.length = k) (hAw : wholeOf (unM l) = A) (hA0 : A ≠ []) (c : UInt8) (ic : (unM l)[k]? = some c) (hc6 : ¬ (c.toNat : Int) = 46) (hsc : scanF l = none) :
    ∃ rest, findLabel (scanOf Tryd.f37) 0 = some rest ∧ rest.wp Tryd.prog (jumps (fun l' a' w' => Jn l w l' a' w' ∧ μn l l' a' w' < μn l 0 a W) Q) a W := by
  subst hW
  have hlen := fM_le l
  rw [show μn l 0 a (W2 w (hasM l) [] [] 0) = 2 * l.length + 4 from rfl]
  obtain ⟨u, ha⟩ := hF.open_
  clear hF
  subst ha
  have hx0 : (ByteArray.mk l.toArray).extract (fM l) (fM l + k) = ⟨A.toArray⟩ := by rw [extract_mid, ← drop_M, Nat.add_sub_cancel_left, hAk]
  have hkl : k < (unM l).length := (List.getElem?_eq_some_iff.1 ic).1
  have il : l[fM l + k]? = some c := by rw [at_un]; exact ic
  obtain ⟨p, hp⟩ : ∃ p, fM l + k = p := ⟨_, rfl⟩
  obtain ⟨f, hf⟩ : ∃ f, fM l = f := ⟨_, rfl⟩
  obtain ⟨m, hm⟩ : ∃ m, hasM l = m := ⟨_, rfl⟩
  have f0 : (0 : Int) ≤ f := by omega
  have fp : (f : Int) ≤ p := by omega
  have pl : (p : Int) ≤ l.length := by omega
  have pl2 : (p : Int) ≤ 140737488355328 := by omega
  have p40 : p ≤ 2 ^ 47 := by omega
  have he : ¬ (p : Int) = l.length := by omega
  have hl' : (p : Int) < l.length := by omega
  rw [hp] at il
  have ek := ix_eq il
  have hkk := ix_lt il
  have lo := u8_lo c
  have hi := u8_hi c
  have hbe := beqE hA0
  have HH := hide2 (And.intro hlen (And.intro hp (And.intro hf (And.intro hm (And.intro hAk (And.intro hAl hAw))))))
  have HS := hide2 hsc
  rw [hp, hf, hm]
  rw [hp, hf] at hx0
  refine ⟨_, rfl, ?_⟩
  clear hlen hp hf hm hk hAk hAl hAw hsc hkl ic hA0
  unfold W2
  go_wp2
  go_step3
  obtain ⟨hlen, hp, hf, hm, hAk, hAl, hAw⟩ := HH.out
  refine ⟨⟨p, f, m, A, [], fr_mk _ _ _ _ _ rfl rfl rfl rfl rfl rfl, rfl, HS.out⟩, ?_⟩
  rw [show ∀ x y, μn l 3 x y = 0 from fun _ _ => rfl]
  omega
theorem pass0_T4 (l : List UInt8) (w : World) (hs : l.length ≤ 2 ^ 47) (Q : Exit → Act → World → Prop) (a : Act) (W : World) (k : Nat) (A : List UInt8) (hF : Fr l w.heap.size a (fM l + k) (fM l)) (hW : W = W2 w (hasM l) [] [] 0) (hk : k ≤ (unM l).length) (hAk : (unM l).take k = A) (hAl : A.length = k) (hAw : wholeOf (unM l) = A) (hA0 : A ≠ []) (ic : (unM l)[k]? = some 46) (hd2 : dgB (unM l) (k + 1) = true) :
    ∃ rest, findLabel (scanOf Tryd.f37) 0 = some rest ∧ rest.wp Tryd.prog (jumps (fun l' a' w' => Jn l w l' a' w' ∧ μn l l' a' w' < μn l 0 a W) Q) a W := by
  subst hW
  have hlen := fM_le l
  rw [show μn l 0 a (W2 w (hasM l) [] [] 0) = 2 * l.length + 4 from rfl]
  obtain ⟨u, ha⟩ := hF.open_
  clear hF
  subst ha
  have hx0 : (ByteArray.mk l.toArray).extract (fM l) (fM l + k) = ⟨A.toArray⟩ := by rw [extract_mid, ← drop_M, Nat.add_sub_cancel_left, hAk]
  have hkl : k < (unM l).length := (List.getElem?_eq_some_iff.1 ic).1
  have il : l[fM l + k]? = some 46 := by rw [at_un]; exact ic
  obtain ⟨p, hp⟩ : ∃ p, fM l + k = p := ⟨_, rfl⟩
  obtain ⟨f, hf⟩ : ∃ f, fM l = f := ⟨_, rfl⟩
  obtain ⟨m, hm⟩ : ∃ m, hasM l = m := ⟨_, rfl⟩
  have f0 : (0 : Int) ≤ f := by omega
  have fp : (f : Int) ≤ p := by omega
  have pl : (p : Int) ≤ l.length := by omega
  have pl2 : (p : Int) ≤ 140737488355328 := by omega
  have p40 : p ≤ 2 ^ 47 := by omega
  have he : ¬ (p : Int) = l.length := by omega
  have hl' : (p : Int) < l.length := by omega
  rw [hp] at il
  have ek := ix_eq il
  have hkk := ix_lt il
  have n46 : ((46 : UInt8).toNat : Int) = 46 := rfl
  have hbe := beqE hA0
  have dd := dg_at l (p + 1) ((p : Int) + 1) (by omega) true (by rw [← hp, Nat.add_assoc, dgB_un, hd2])
  have HH := hide2 (And.intro hlen (And.intro hp (And.intro hf (And.intro hm (And.intro hAk (And.intro hAl hAw))))))
  have HC := hide2 (And.intro hkl (And.intro ic (And.intro hd2 hA0)))
  rw [hp, hf, hm]
  rw [hp, hf] at hx0
  refine ⟨_, rfl, ?_⟩
  clear hlen hp hf hm hk hAk hAl hAw hkl ic hA0 hd2
  unfold W2
  go_wp2
  go_step3
  go_wp2_with (go_at_call 56; refine (dd _ hs (by omega)).mono ?_; rintro e w' ⟨rfl, rfl⟩)
  go_step3
  obtain ⟨hlen, hp, hf, hm, hAk, hAl, hAw⟩ := HH.out
  obtain ⟨hkl, ic, hd2, hA0⟩ := HC.out
  have e5 : (p : Int) + 1 + 1 = ((fM l + A.length + 1 + 1 : Nat) : Int) := by omega
  have e6 : (p : Int) + 1 = ((fM l + A.length + 1 : Nat) : Int) := by omega
  have hr : unM l = A ++ 46 :: (unM l).drop (k + 1) := by
    have h1 := List.take_append_drop k (unM l)
    rw [hAk, List.drop_eq_getElem_cons hkl, (List.getElem?_eq_some_iff.1 ic).2] at h1
    exact h1.symm
  refine ⟨⟨1, A, (unM l).drop (k + 1), fr_mk _ _ _ _ _ rfl rfl rfl rfl (by rw [← e5]; rfl) (by rw [← e6]; rfl), by rw [hm]; rfl, hAw.symm, hA0, hr, ?_, ?_⟩, ?_⟩
  · rcases ik : (unM l)[k + 1]? with _ | x
    · rw [dgB, ik] at hd2; cases hd2
    · have := (List.getElem?_eq_some_iff.1 ik).1
      rw [List.length_drop]; omega
  · intro c hc
    rcases ik : (unM l)[k + 1]? with _ | x
    · rw [dgB, ik] at hd2; cases hd2
    · have e0 : ((unM l).drop (k + 1))[0]? = some x := by rw [List.getElem?_drop]; exact ik
      rw [take_snoc e0] at hc
      simp at hc
      subst hc
      rw [dgB, ik] at hd2
      exact hd2
  · rw [(μ_lt l _ (fM l + A.length + 1 + 1) _ (by rw [← e5]; rfl)).2]
    omega
theorem pass0_T3c (l : List UInt8) (w : World) (hs : l.length ≤ 2 ^ 47) (Q : Exit → Act → World → Prop) (a : Act) (W : World) (k : Nat) (A : List UInt8) (hF : Fr l w.heap.size a (fM l + k) (fM l)) (hW : W = W2 w (hasM l) [] [] 0) (hk : k ≤ (unM l).length) (hAk : (unM l).take k = A) (hAl : A.length = k) (hAw : wholeOf (unM l) = A) (hA0 : A ≠ []) (ic : (unM l)[k]? = some 46) (hd2 : dgB (unM l) (k + 1) = false) (hsc : scanF l = none) :
    ∃ rest, findLabel (scanOf Tryd.f37) 0 = some rest ∧ rest.wp Tryd.prog (jumps (fun l' a' w' => Jn l w l' a' w' ∧ μn l l' a' w' < μn l 0 a W) Q) a W := by
  subst hW
  have hlen := fM_le l
  rw [show μn l 0 a (W2 w (hasM l) [] [] 0) = 2 * l.length + 4 from rfl]
  obtain ⟨u, ha⟩ := hF.open_
  clear hF
  subst ha
  have hx0 : (ByteArray.mk l.toArray).extract (fM l) (fM l + k) = ⟨A.toArray⟩ := by rw [extract_mid, ← drop_M, Nat.add_sub_cancel_left, hAk]
  have hkl : k < (unM l).length := (List.getElem?_eq_some_iff.1 ic).1
  have il : l[fM l + k]? = some 46 := by rw [at_un]; exact ic
  obtain ⟨p, hp⟩ : ∃ p, fM l + k = p := ⟨_, rfl⟩
  obtain ⟨f, hf⟩ : ∃ f, fM l = f := ⟨_, rfl⟩
  obtain ⟨m, hm⟩ : ∃ m, hasM l = m := ⟨_, rfl⟩
  have f0 : (0 : Int) ≤ f := by omega
  have fp : (f : Int) ≤ p := by omega
  have pl : (p : Int) ≤ l.length := by omega
  have pl2 : (p : Int) ≤ 140737488355328 := by omega
  have p40 : p ≤ 2 ^ 47 := by omega
  have he : ¬ (p : Int) = l.length := by omega
  have hl' : (p : Int) < l.length := by omega
  rw [hp] at il
  have ek := ix_eq il
  have hkk := ix_lt il
  have n46 : ((46 : UInt8).toNat : Int) = 46 := rfl
  have hbe := beqE hA0
  have dd := dg_at l (p + 1) ((p : Int) + 1) (by omega) false (by rw [← hp, Nat.add_assoc, dgB_un, hd2])
  have hx2 : (ByteArray.mk l.toArray).extract (p + 1) (p + 1) = ⟨([] : List UInt8).toArray⟩ := by rw [extract_mid]; simp
  have HH := hide2 (And.intro hlen (And.intro hp (And.intro hf (And.intro hm (And.intro hAk (And.intro hAl hAw))))))
  have HS := hide2 hsc
  rw [hp, hf, hm]
  rw [hp, hf] at hx0
  refine ⟨_, rfl, ?_⟩
  clear hlen hp hf hm hk hAk hAl hAw hsc hkl ic hA0 hd2
  unfold W2
  go_wp2
  go_step3
  go_wp2_with (go_at_call 56; refine (dd _ hs (by omega)).mono ?_; rintro e w' ⟨rfl, rfl⟩)
  go_step3
  obtain ⟨hlen, hp, hf, hm, hAk, hAl, hAw⟩ := HH.out
  refine ⟨⟨(p + 1), (p + 1), m, A, [], fr_mk _ _ _ _ _ rfl rfl rfl rfl rfl rfl, rfl, HS.out⟩, ?_⟩
  rw [show ∀ x y, μn l 3 x y = 0 from fun _ _ => rfl]
  omega
theorem pass1_T2 (l : List UInt8) (w : World) (hs : l.length ≤ 2 ^ 47) (Q : Exit → Act → World → Prop) (a : Act) (W : World) (k : Nat) (A : List UInt8) (hF : Fr l w.heap.size a (fM l + k) (fM l)) (hW : W = W2 w (hasM l) [] [] 0) (hk : k ≤ (unM l).length) (hAk : (unM l).take k = A) (hAl : A.length = k) (hAw : wholeOf (unM l) = A) (hd : dgB (unM l) k = false) (hc : k = (unM l).length) :
    ∃ rest, findLabel (scanOf Tryd.f37) 1 = some rest ∧ rest.wp Tryd.prog (jumps (fun l' a' w' => Jn l w l' a' w' ∧ μn l l' a' w' < μn l 1 a W) Q) a W := by
  subst hW
  have hlen := fM_le l
  rw [(μ_lt l a _ _ hF.five).1]
  obtain ⟨u, ha⟩ := hF.open_
  clear hF
  subst ha
  have hx0 : (ByteArray.mk l.toArray).extract (fM l) (fM l + k) = ⟨A.toArray⟩ := by rw [extract_mid, ← drop_M, Nat.add_sub_cancel_left, hAk]
  obtain ⟨p, hp⟩ : ∃ p, fM l + k = p := ⟨_, rfl⟩
  obtain ⟨f, hf⟩ : ∃ f, fM l = f := ⟨_, rfl⟩
  obtain ⟨m, hm⟩ : ∃ m, hasM l = m := ⟨_, rfl⟩
  have f0 : (0 : Int) ≤ f := by omega
  have fp : (f : Int) ≤ p := by omega
  have pl : (p : Int) ≤ l.length := by omega
  have pl2 : (p : Int) ≤ 140737488355328 := by omega
  have p40 : p ≤ 2 ^ 47 := by omega
  have he : (l.length : Int) = p := by omega
  have dd := dg_at l p p rfl false (by rw [← hp, dgB_un, hd])
  have HH := hide2 (And.intro hlen (And.intro hp (And.intro hf (And.intro hm (And.intro hAk (And.intro hAl hAw))))))
  have HC := hide2 hc
  rw [hp, hf, hm]
  rw [hp, hf] at hx0
  refine ⟨_, rfl, ?_⟩
  clear hlen hp hf hm hk hAk hAl hAw hc hd
  unfold W2
  go_wp2_with (go_at_call 56; refine (dd _ hs (by omega)).mono ?_; rintro e w' ⟨rfl, rfl⟩)
  go_step3
  go_wp2
  go_step3
  obtain ⟨hlen, hp, hf, hm, hAk, hAl, hAw⟩ := HH.out
  refine ⟨⟨p, f, fr_mk _ _ _ _ _ rfl rfl rfl rfl (by first | rfl | (rw [← he]; rfl)) rfl, by rw [hm, hAw]; rfl, by rw [hAw, hAl]; exact List.drop_eq_nil_of_le (by have := HC.out; omega)⟩, ?_⟩
  rw [show ∀ x y, μn l 2 x y = 1 from fun _ _ => rfl]
  omega
theorem pass1_T3a (l : List UInt8) (w : World) (hs : l.length ≤ 2 ^ 47) (Q : Exit → Act → World → Prop) (a : Act) (W : World) (k : Nat) (A : List UInt8) (hF : Fr l w.heap.size a (fM l + k) (fM l)) (hW : W = W2 w (hasM l) [] [] 0) (hk : k ≤ (unM l).length) (hAk : (unM l).take k = A) (hAl : A.length = k) (hAw : wholeOf (unM l) = A) (hd : dgB (unM l) k = false) (hA0 : A = []) (hc : k < (unM l).length) (hsc : scanF l = none) :
    ∃ rest, findLabel (scanOf Tryd.f37) 1 = some rest ∧ rest.wp Tryd.prog (jumps (fun l' a' w' => Jn l w l' a' w' ∧ μn l l' a' w' < μn l 1 a W) Q) a W := by
  subst hW
  have hlen := fM_le l
  rw [(μ_lt l a _ _ hF.five).1]
  obtain ⟨u, ha⟩ := hF.open_
  clear hF
  subst ha
  have hx0 : (ByteArray.mk l.toArray).extract (fM l) (fM l + k) = ⟨A.toArray⟩ := by rw [extract_mid, ← drop_M, Nat.add_sub_cancel_left, hAk]
  obtain ⟨p, hp⟩ : ∃ p, fM l + k = p := ⟨_, rfl⟩
  obtain ⟨f, hf⟩ : ∃ f, fM l = f := ⟨_, rfl⟩
  obtain ⟨m, hm⟩ : ∃ m, hasM l = m := ⟨_, rfl⟩
  have f0 : (0 : Int) ≤ f := by omega
  have fp : (f : Int) ≤ p := by omega
  have pl : (p : Int) ≤ l.length := by omega
  have pl2 : (p : Int) ≤ 140737488355328 := by omega
  have p40 : p ≤ 2 ^ 47 := by omega
  have he : ¬ (p : Int) = l.length := by omega
  have hl' : (p : Int) < l.length := by omega
  have dd := dg_at l p p rfl false (by rw [← hp, dgB_un, hd])
  have HH := hide2 (And.intro hlen (And.intro hp (And.intro hf (And.intro hm (And.intro hAk (And.intro hAl hAw))))))
  have HS := hide2 hsc
  rw [hp, hf, hm]
  rw [hp, hf] at hx0
  refine ⟨_, rfl, ?_⟩
  clear hlen hp hf hm hk hAk hAl hAw hc hsc hd
  subst hA0
  unfold W2
  go_wp2_with (go_at_call 56; refine (dd _ hs (by omega)).mono ?_; rintro e w' ⟨rfl, rfl⟩)
  go_step3
  go_wp2
  go_step3
  obtain ⟨hlen, hp, hf, hm, hAk, hAl, hAw⟩ := HH.out
  refine ⟨⟨p, f, m, [], [], fr_mk _ _ _ _ _ rfl rfl rfl rfl rfl rfl, rfl, HS.out⟩, ?_⟩
  rw [show ∀ x y, μn l 3 x y = 0 from fun _ _ => rfl]
  omega
theorem pass1_T3b (l : List UInt8) (w : World) (hs : l.length ≤ 2 ^ 47) (Q : Exit → Act → World → Prop) (a : Act) (W : World) (k : Nat) (A : List UInt8) (hF : Fr l w.heap.size a (fM l + k) (fM l)) (hW : W = W2 w (hasM l) [] [] 0) (hk : k ≤ (unM l).length) (hAk : (unM l).take k = A) (hAl : A.length = k) (hAw : wholeOf (unM l) = A) (hd : dgB (unM l) k = false) (hA0 : A ≠ []) (c : UInt8) (ic : (unM l)[k]? = some c) (hc6 : ¬ (c.toNat : Int) = 46) (hsc : scanF l = none) :
    ∃ rest, findLabel (scanOf Tryd.f37) 1 = some rest ∧ rest.wp Tryd.prog (jumps (fun l' a' w' => Jn l w l' a' w' ∧ μn l l' a' w' < μn l 1 a W) Q) a W := by
  subst hW
  have hlen := fM_le l
  rw [(μ_lt l a _ _ hF.five).1]
  obtain ⟨u, ha⟩ := hF.open_
  clear hF
  subst ha
  have hx0 : (ByteArray.mk l.toArray).extract (fM l) (fM l + k) = ⟨A.toArray⟩ := by rw [extract_mid, ← drop_M, Nat.add_sub_cancel_left, hAk]
  have hkl : k < (unM l).length := (List.getElem?_eq_some_iff.1 ic).1
  have il : l[fM l + k]? = some c := by rw [at_un]; exact ic
  obtain ⟨p, hp⟩ : ∃ p, fM l + k = p := ⟨_, rfl⟩
  obtain ⟨f, hf⟩ : ∃ f, fM l = f := ⟨_, rfl⟩
  obtain ⟨m, hm⟩ : ∃ m, hasM l = m := ⟨_, rfl⟩
  have f0 : (0 : Int) ≤ f := by omega
  have fp : (f : Int) ≤ p := by omega
  have pl : (p : Int) ≤ l.length := by omega
  have pl2 : (p : Int) ≤ 140737488355328 := by omega
  have p40 : p ≤ 2 ^ 47 := by omega
  have he : ¬ (p : Int) = l.length := by omega
  have hl' : (p : Int) < l.length := by omega
  rw [hp] at il
  have ek := ix_eq il
  have hkk := ix_lt il
  have lo := u8_lo c
  have hi := u8_hi c
  have hbe := beqE hA0
  have dd := dg_at l p p rfl false (by rw [← hp, dgB_un, hd])
  have HH := hide2 (And.intro hlen (And.intro hp (And.intro hf (And.intro hm (And.intro hAk (And.intro hAl hAw))))))
  have HS := hide2 hsc
  rw [hp, hf, hm]
  rw [hp, hf] at hx0
  refine ⟨_, rfl, ?_⟩
  clear hlen hp hf hm hk hAk hAl hAw hsc hkl ic hA0 hd
  unfold W2
  go_wp2_with (go_at_call 56; refine (dd _ hs (by omega)).mono ?_; rintro e w' ⟨rfl, rfl⟩)
  go_step3
  go_wp2
  go_step3
  obtain ⟨hlen, hp, hf, hm, hAk, hAl, hAw⟩ := HH.out
  refine ⟨⟨p, f, m, A, [], fr_mk _ _ _ _ _ rfl rfl rfl rfl rfl rfl, rfl, HS.out⟩, ?_⟩
  rw [show ∀ x y, μn l 3 x y = 0 from fun _ _ => rfl]
  omega
theorem pass1_T4 (l : List UInt8) (w : World) (hs : l.length ≤ 2 ^ 47) (Q : Exit → Act → World → Prop) (a : Act) (W : World) (k : Nat) (A : List UInt8) (hF : Fr l w.heap.size a (fM l + k) (fM l)) (hW : W = W2 w (hasM l) [] [] 0) (hk : k ≤ (unM l).length) (hAk : (unM l).take k = A) (hAl : A.length = k) (hAw : wholeOf (unM l) = A) (hd : dgB (unM l) k = false) (hA0 : A ≠ []) (ic : (unM l)[k]? = some 46) (hd2 : dgB (unM l) (k + 1) = true) :
    ∃ rest, findLabel (scanOf Tryd.f37) 1 = some rest ∧ rest.wp Tryd.prog (jumps (fun l' a' w' => Jn l w l' a' w' ∧ μn l l' a' w' < μn l 1 a W) Q) a W := by
  subst hW
  have hlen := fM_le l
  rw [(μ_lt l a _ _ hF.five).1]
  obtain ⟨u, ha⟩ := hF.open_
  clear hF
  subst ha
  have hx0 : (ByteArray.mk l.toArray).extract (fM l) (fM l + k) = ⟨A.toArray⟩ := by rw [extract_mid, ← drop_M, Nat.add_sub_cancel_left, hAk]
  have hkl : k < (unM l).length := (List.getElem?_eq_some_iff.1 ic).1
  have il : l[fM l + k]? = some 46 := by rw [at_un]; exact ic
  obtain ⟨p, hp⟩ : ∃ p, fM l + k = p := ⟨_, rfl⟩
  obtain ⟨f, hf⟩ : ∃ f, fM l = f := ⟨_, rfl⟩
  obtain ⟨m, hm⟩ : ∃ m, hasM l = m := ⟨_, rfl⟩
  have f0 : (0 : Int) ≤ f := by omega
  have fp : (f : Int) ≤ p := by omega
  have pl : (p : Int) ≤ l.length := by omega
  have pl2 : (p : Int) ≤ 140737488355328 := by omega
  have p40 : p ≤ 2 ^ 47 := by omega
  have he : ¬ (p : Int) = l.length := by omega
  have hl' : (p : Int) < l.length := by omega
  rw [hp] at il
  have ek := ix_eq il
  have hkk := ix_lt il
  have n46 : ((46 : UInt8).toNat : Int) = 46 := rfl
  have hbe := beqE hA0
  have dd := dg_two hs p40 (show dgB l p = false by rw [← hp, dgB_un, hd]) (show dgB l (p + 1) = true by rw [← hp, Nat.add_assoc, dgB_un, hd2])
  have HH := hide2 (And.intro hlen (And.intro hp (And.intro hf (And.intro hm (And.intro hAk (And.intro hAl hAw))))))
  have HC := hide2 (And.intro hkl (And.intro ic (And.intro hd2 hA0)))
  rw [hp, hf, hm]
  rw [hp, hf] at hx0
  refine ⟨_, rfl, ?_⟩
  clear hlen hp hf hm hk hAk hAl hAw hkl ic hA0 hd2 hd
  unfold W2
  go_wp2_with (go_at_call 56; refine (dd _ _ (by first | exact .inl ⟨rfl, rfl⟩ | exact .inr ⟨rfl, rfl⟩) _).mono ?_; rintro e w' ⟨rfl, rfl⟩)
  go_step3
  go_wp2
  go_step3
  go_wp2_with (go_at_call 56; refine (dd _ _ (by first | exact .inl ⟨rfl, rfl⟩ | exact .inr ⟨rfl, rfl⟩) _).mono ?_; rintro e w' ⟨rfl, rfl⟩)
  go_step3
  obtain ⟨hlen, hp, hf, hm, hAk, hAl, hAw⟩ := HH.out
  obtain ⟨hkl, ic, hd2, hA0⟩ := HC.out
  have e5 : (p : Int) + 1 + 1 = ((fM l + A.length + 1 + 1 : Nat) : Int) := by omega
  have e6 : (p : Int) + 1 = ((fM l + A.length + 1 : Nat) : Int) := by omega
  have hr : unM l = A ++ 46 :: (unM l).drop (k + 1) := by
    have h1 := List.take_append_drop k (unM l)
    rw [hAk, List.drop_eq_getElem_cons hkl, (List.getElem?_eq_some_iff.1 ic).2] at h1
    exact h1.symm
  refine ⟨⟨1, A, (unM l).drop (k + 1), fr_mk _ _ _ _ _ rfl rfl rfl rfl (by rw [← e5]; rfl) (by rw [← e6]; rfl), by rw [hm]; rfl, hAw.symm, hA0, hr, ?_, ?_⟩, ?_⟩
  · rcases ik : (unM l)[k + 1]? with _ | x
    · rw [dgB, ik] at hd2; cases hd2
    · have := (List.getElem?_eq_some_iff.1 ik).1
      rw [List.length_drop]; omega
  · intro c hc
    rcases ik : (unM l)[k + 1]? with _ | x
    · rw [dgB, ik] at hd2; cases hd2
    · have e0 : ((unM l).drop (k + 1))[0]? = some x := by rw [List.getElem?_drop]; exact ik
      rw [take_snoc e0] at hc
      simp at hc
      subst hc
      rw [dgB, ik] at hd2
      exact hd2
  · rw [(μ_lt l _ (fM l + A.length + 1 + 1) _ (by rw [← e5]; rfl)).2]
    omega
theorem pass1_T3c (l : List UInt8) (w : World) (hs : l.length ≤ 2 ^ 47) (Q : Exit → Act → World → Prop) (a : Act) (W : World) (k : Nat) (A : List UInt8) (hF : Fr l w.heap.size a (fM l + k) (fM l)) (hW : W = W2 w (hasM l) [] [] 0) (hk : k ≤ (unM l).length) (hAk : (unM l).take k = A) (hAl : A.length = k) (hAw : wholeOf (unM l) = A) (hd : dgB (unM l) k = false) (hA0 : A ≠ []) (ic : (unM l)[k]? = some 46) (hd2 : dgB (unM l) (k + 1) = false) (hsc : scanF l = none) :
    ∃ rest, findLabel (scanOf Tryd.f37) 1 = some rest ∧ rest.wp Tryd.prog (jumps (fun l' a' w' => Jn l w l' a' w' ∧ μn l l' a' w' < μn l 1 a W) Q) a W := by
  subst hW
  have hlen := fM_le l
  rw [(μ_lt l a _ _ hF.five).1]
  obtain ⟨u, ha⟩ := hF.open_
  clear hF
  subst ha
  have hx0 : (ByteArray.mk l.toArray).extract (fM l) (fM l + k) = ⟨A.toArray⟩ := by rw [extract_mid, ← drop_M, Nat.add_sub_cancel_left, hAk]
  have hkl : k < (unM l).length := (List.getElem?_eq_some_iff.1 ic).1
  have il : l[fM l + k]? = some 46 := by rw [at_un]; exact ic
  obtain ⟨p, hp⟩ : ∃ p, fM l + k = p := ⟨_, rfl⟩
  obtain ⟨f, hf⟩ : ∃ f, fM l = f := ⟨_, rfl⟩
  obtain ⟨m, hm⟩ : ∃ m, hasM l = m := ⟨_, rfl⟩
  have f0 : (0 : Int) ≤ f := by omega
  have fp : (f : Int) ≤ p := by omega
  have pl : (p : Int) ≤ l.length := by omega
  have pl2 : (p : Int) ≤ 140737488355328 := by omega
  have p40 : p ≤ 2 ^ 47 := by omega
  have he : ¬ (p : Int) = l.length := by omega
  have hl' : (p : Int) < l.length := by omega
  rw [hp] at il
  have ek := ix_eq il
  have hkk := ix_lt il
  have n46 : ((46 : UInt8).toNat : Int) = 46 := rfl
  have hbe := beqE hA0
  have dd := dg_two hs p40 (show dgB l p = false by rw [← hp, dgB_un, hd]) (show dgB l (p + 1) = false by rw [← hp, Nat.add_assoc, dgB_un, hd2])
  have hx2 : (ByteArray.mk l.toArray).extract (p + 1) (p + 1) = ⟨([] : List UInt8).toArray⟩ := by rw [extract_mid]; simp
  have HH := hide2 (And.intro hlen (And.intro hp (And.intro hf (And.intro hm (And.intro hAk (And.intro hAl hAw))))))
  have HS := hide2 hsc
  rw [hp, hf, hm]
  rw [hp, hf] at hx0
  refine ⟨_, rfl, ?_⟩
  clear hlen hp hf hm hk hAk hAl hAw hsc hkl ic hA0 hd2 hd
  unfold W2
  go_wp2_with (go_at_call 56; refine (dd _ _ (by first | exact .inl ⟨rfl, rfl⟩ | exact .inr ⟨rfl, rfl⟩) _).mono ?_; rintro e w' ⟨rfl, rfl⟩)
  go_step3
  go_wp2
  go_step3
  go_wp2_with (go_at_call 56; refine (dd _ _ (by first | exact .inl ⟨rfl, rfl⟩ | exact .inr ⟨rfl, rfl⟩) _).mono ?_; rintro e w' ⟨rfl, rfl⟩)
  go_step3
  obtain ⟨hlen, hp, hf, hm, hAk, hAl, hAw⟩ := HH.out
  refine ⟨⟨(p + 1), (p + 1), m, A, [], fr_mk _ _ _ _ _ rfl rfl rfl rfl rfl rfl, rfl, HS.out⟩, ?_⟩
  rw [show ∀ x y, μn l 3 x y = 0 from fun _ _ => rfl]
  omega
end Go.Proofs.YthfmepnlbaifcaaDoor
