/-
  The scanner in the rest, and at its ends (made by a generator).
-/
import Derived.Test.YthfmepnlbaifcaaDoorSp
namespace Go.Proofs.YthfmepnlbaifcaaDoor
open Go.RowKit
set_option linter.unusedVariables false
set_option linter.unusedSimpArgs false
/-- what is asked where the scanner returns -/
def RetQ (l : List UInt8) (w : World) (Q : Exit → Act → World → Prop) : Prop := ∀ (T : Array Value) (W : World), T.getD 2 undef = .pointer (some ⟨w.heap.size, 0, none⟩) → T.getD 3 undef = .bool (scanF l).isSome → W.heap[w.heap.size]? = some (.cells (nmV (scanF l)) 69 (0, 0)) → Below w.heap.size w W → Q .ret ⟨T, []⟩ W
theorem at_r {l A r : List UInt8} (h : unM l = A ++ 46 :: r) (k : Nat) : l[fM l + A.length + 1 + k]? = r[k]? := by
  rw [Nat.add_assoc, Nat.add_assoc, at_un, h, List.getElem?_append_right (by omega), show A.length + (1 + k) - A.length = k + 1 by omega]
  rfl
theorem drop_r {l A r : List UInt8} (h : unM l = A ++ 46 :: r) : l.drop (fM l + A.length + 1) = r := by
  rw [Nat.add_assoc, ← List.drop_drop, ← drop_M, h, ← List.drop_drop, List.drop_left]
  rfl
theorem dgB_r {l A r : List UInt8} (h : unM l = A ++ 46 :: r) (k : Nat) : dgB l (fM l + A.length + 1 + k) = dgB r k := by rw [dgB, dgB, at_r h]
theorem power_at (q : List UInt8) (b : Bool) (hb : isP q = b) (w : World) (hs : q.length ≤ 2 ^ 47) :
    Calls Tryd.prog 57 #[.string ⟨q.toArray⟩] w fun e w' => e = .returned (.bool b) ∧ w' = w := by
  subst hb
  exact isPower_any q w hs
theorem atoi_at (q : List UInt8) (v : Int) (hv : powV q = v) (h : isP q = true) (w : World) :
    Calls Tryd.prog 58 #[.string ⟨q.toArray⟩] w fun e w' => e = .returned (.tuple #[.int .i64 v, .nilIface]) ∧ Below w.heap.size w w' := by
  obtain ⟨h1, h2⟩ := atoi_P h
  rw [hv] at h1
  refine (Tryd.strconv_Atoi ⟨q.toArray⟩ v h2 h1 w).mono ?_
  rintro e w' ⟨rfl, t, rfl⟩
  exact ⟨rfl, Lib.bytesWorld_below _ _ _⟩
theorem set4 {W : World} {g : Nat} {a b c d : Value} {t : TypeId} {fr : Nat × Nat} (h : W.heap[g]? = some (.cells #[a, b, c, d] t fr)) (v0 v1 v2 v3 : Value) :
    ((((W.setCell ⟨g, 0, none⟩ v0).setCell ⟨g, 1, none⟩ v1).setCell ⟨g, 2, none⟩ v2).setCell ⟨g, 3, none⟩ v3).heap[g]? = some (.cells #[v0, v1, v2, v3] t fr) :=
  block_setCell (block_setCell (block_setCell (block_setCell h 0 v0) 1 v1) 2 v2) 3 v3
theorem below_set {n : Nat} {w A : World} {g : Nat} (h : Below n w A) (hg : n ≤ g) (o : Nat) (v : Value) : Below n w (A.setCell ⟨g, o, none⟩ v) :=
  h.trans ⟨rfl, rfl, rfl, by simp [World.setCell], fun k hk => Below.heap_setCell _ _ _ _ (by show k ≠ g; omega)⟩
/-- two variables behind a call that leaves what was there -/
theorem aft {w W : World} {x0 x1 x2 x3 y0 y1 y2 y3 : Value} {t s : TypeId} (hb : Below ((w.alloc (.cells #[x0, x1, x2, x3] t)).alloc (.cells #[y0, y1, y2, y3] s)).heap.size ((w.alloc (.cells #[x0, x1, x2, x3] t)).alloc (.cells #[y0, y1, y2, y3] s)) W) :
    (W.heap[w.heap.size]? = some (.cells #[x0, x1, x2, x3] t (0, 0)) ∧ W.heap[w.heap.size + 1]? = some (.cells #[y0, y1, y2, y3] s (0, 0)) ∧ Below w.heap.size w W) ∧
    (W.cell? ⟨w.heap.size, 0, none⟩ = some x0 ∧ W.frozen? ⟨w.heap.size, 0, none⟩ = false) ∧
    (W.cell? ⟨w.heap.size, 1, none⟩ = some x1 ∧ W.frozen? ⟨w.heap.size, 1, none⟩ = false) ∧
    (W.cell? ⟨w.heap.size, 2, none⟩ = some x2 ∧ W.frozen? ⟨w.heap.size, 2, none⟩ = false) ∧
    (W.cell? ⟨w.heap.size, 3, none⟩ = some x3 ∧ W.frozen? ⟨w.heap.size, 3, none⟩ = false) ∧
    (W.cell? ⟨w.heap.size + 1, 0, none⟩ = some y0 ∧ W.frozen? ⟨w.heap.size + 1, 0, none⟩ = false) ∧
    (W.cell? ⟨w.heap.size + 1, 1, none⟩ = some y1 ∧ W.frozen? ⟨w.heap.size + 1, 1, none⟩ = false) ∧
    (W.cell? ⟨w.heap.size + 1, 2, none⟩ = some y2 ∧ W.frozen? ⟨w.heap.size + 1, 2, none⟩ = false) ∧
    (W.cell? ⟨w.heap.size + 1, 3, none⟩ = some y3 ∧ W.frozen? ⟨w.heap.size + 1, 3, none⟩ = false) := by
  have hsz : ((w.alloc (.cells #[x0, x1, x2, x3] t)).alloc (.cells #[y0, y1, y2, y3] s)).heap.size = w.heap.size + 2 := by simp
  have h1 : W.heap[w.heap.size]? = some (.cells #[x0, x1, x2, x3] t (0, 0)) := (hb.block _ (by omega)).trans (heap_alloc2_old w _ _)
  have h2 : W.heap[w.heap.size + 1]? = some (.cells #[y0, y1, y2, y3] s (0, 0)) := (hb.block _ (by omega)).trans (heap_alloc2_new w _ _)
  refine ⟨⟨h1, h2, ?_⟩, ?_⟩
  · exact (((Below.refl _ w).alloc (Nat.le_refl _) _).alloc (by simp) _).trans (hb.mono (by omega))
  · refine ⟨⟨?_, ?_⟩, ⟨?_, ?_⟩, ⟨?_, ?_⟩, ⟨?_, ?_⟩, ⟨?_, ?_⟩, ⟨?_, ?_⟩, ⟨?_, ?_⟩, ⟨?_, ?_⟩⟩ <;> simp [World.cell?, World.frozen?, h1, h2]
theorem pass4d (l : List UInt8) (w : World) (hs : l.length ≤ 2 ^ 47) (Q : Exit → Act → World → Prop) (a : Act) (W : World) (k : Nat) (A r : List UInt8) (hF : Fr l w.heap.size a (fM l + A.length + 1 + k) (fM l + A.length + 1)) (hW : W = W2 w (hasM l) A [] 0) (hr : unM l = A ++ 46 :: r) (hk : k ≤ r.length) (hAw : A = wholeOf (unM l)) (hA0 : A ≠ []) (hall : ∀ c ∈ r.take k, dg c = true) (hd : dgB r k = true) :
    ∃ rest, findLabel (scanOf Tryd.f37) 4 = some rest ∧ rest.wp Tryd.prog (jumps (fun l' a' w' => Jn l w l' a' w' ∧ μn l l' a' w' < μn l 4 a W) Q) a W := by
  subst hW
  have hlen := fM_le l
  have hll : (unM l).length = A.length + 1 + r.length := by rw [hr]; simp; omega
  rw [(μ_lt l a _ _ hF.five).2]
  obtain ⟨u, ha⟩ := hF.open_
  clear hF
  subst ha
  obtain ⟨p, hp0⟩ : ∃ p, fM l + A.length + 1 + k = p := ⟨_, rfl⟩
  obtain ⟨f, hf⟩ : ∃ f, fM l + A.length + 1 = f := ⟨_, rfl⟩
  obtain ⟨m, hm⟩ : ∃ m, hasM l = m := ⟨_, rfl⟩
  have f0 : (0 : Int) ≤ f := by omega
  have fp : (f : Int) ≤ p := by omega
  have pl : (p : Int) ≤ l.length := by omega
  have pl2 : (p : Int) ≤ 140737488355328 := by omega
  have dd := dg_at l p p rfl true (by rw [← hp0, dgB_r hr, hd])
  have HH := hide2 (And.intro hlen (And.intro hll (And.intro hp0 (And.intro hf (And.intro hm (And.intro hr (And.intro hk (And.intro hAw hA0))))))))
  have HD := hide2 (And.intro hall hd)
  rw [hp0, hf, hm]
  refine ⟨_, rfl, ?_⟩
  clear hlen hll hp0 hf hm hr hk hAw hA0 hd hall
  unfold W2
  go_wp2_with (first
    | (go_at_call 56; refine (dd _ hs (by omega)).mono ?_; rintro e w' ⟨rfl, rfl⟩))
  go_step3
  obtain ⟨hlen, hll, hp0, hf, hm, hr, hk, hAw, hA0⟩ := HH.out
  obtain ⟨hall, hd⟩ := HD.out
  have hkl : k < r.length := by
    rcases ik : r[k]? with _ | c
    · rw [dgB, ik] at hd; cases hd
    · exact (List.getElem?_eq_some_iff.1 ik).1
  have e5 : (p : Int) + 1 = ((fM l + A.length + 1 + (k + 1) : Nat) : Int) := by omega
  refine ⟨⟨k + 1, A, r, fr_mk _ _ _ _ _ rfl rfl rfl rfl (by rw [← e5]; rfl) (by rw [hf]; rfl), by rw [hm]; rfl, hAw, hA0, hr, hkl, ?_⟩, ?_⟩
  · intro c hc
    rcases ik : r[k]? with _ | x
    · rw [dgB, ik] at hd; cases hd
    · rw [take_snoc ik, List.mem_append] at hc
      rcases hc with hc | hc
      · exact hall c hc
      · simp at hc
        subst hc
        rw [dgB, ik] at hd
        exact hd
  · rw [(μ_lt l _ (fM l + A.length + 1 + (k + 1)) _ (by rw [← e5]; rfl)).2]
    omega
theorem pass4a (l : List UInt8) (w : World) (hs : l.length ≤ 2 ^ 47) (Q : Exit → Act → World → Prop) (a : Act) (W : World) (k : Nat) (A r : List UInt8) (hF : Fr l w.heap.size a (fM l + A.length + 1 + k) (fM l + A.length + 1)) (hW : W = W2 w (hasM l) A [] 0) (hr : unM l = A ++ 46 :: r) (hk : k ≤ r.length) (hAw : A = wholeOf (unM l)) (hA0 : A ≠ []) (hd : dgB r k = false) (B : List UInt8) (hB : r.take k = B) (hB0 : B = []) (hsc : scanF l = none) :
    ∃ rest, findLabel (scanOf Tryd.f37) 4 = some rest ∧ rest.wp Tryd.prog (jumps (fun l' a' w' => Jn l w l' a' w' ∧ μn l l' a' w' < μn l 4 a W) Q) a W := by
  subst hW
  have hlen := fM_le l
  have hll : (unM l).length = A.length + 1 + r.length := by rw [hr]; simp; omega
  rw [(μ_lt l a _ _ hF.five).2]
  obtain ⟨u, ha⟩ := hF.open_
  clear hF
  subst ha
  obtain ⟨p, hp0⟩ : ∃ p, fM l + A.length + 1 + k = p := ⟨_, rfl⟩
  obtain ⟨f, hf⟩ : ∃ f, fM l + A.length + 1 = f := ⟨_, rfl⟩
  obtain ⟨m, hm⟩ : ∃ m, hasM l = m := ⟨_, rfl⟩
  have f0 : (0 : Int) ≤ f := by omega
  have fp : (f : Int) ≤ p := by omega
  have pl : (p : Int) ≤ l.length := by omega
  have pl2 : (p : Int) ≤ 140737488355328 := by omega
  have dd := dg_at l p p rfl false (by rw [← hp0, dgB_r hr, hd])
  have hx0 : (ByteArray.mk l.toArray).extract f p = ⟨B.toArray⟩ := by rw [extract_mid, ← hf, drop_r hr, ← hp0, Nat.add_sub_cancel_left, hB]
  have HH := hide2 (And.intro hlen (And.intro hll (And.intro hp0 (And.intro hf (And.intro hm (And.intro hr (And.intro hk (And.intro hAw hA0))))))))
  have HS := hide2 hsc
  rw [hp0, hf, hm]
  refine ⟨_, rfl, ?_⟩
  clear hlen hll hp0 hf hm hr hk hAw hA0 hd hsc hB
  subst hB0
  unfold W2
  go_wp2_with (first
    | (go_at_call 56; refine (dd _ hs (by omega)).mono ?_; rintro e w' ⟨rfl, rfl⟩))
  go_step3
  obtain ⟨hlen, hll, hp0, hf, hm, hr, hk, hAw, hA0⟩ := HH.out
  refine ⟨⟨p, f, m, A, [], fr_mk _ _ _ _ _ rfl rfl rfl rfl rfl rfl, rfl, HS.out⟩, ?_⟩
  rw [show ∀ x y, μn l 3 x y = 0 from fun _ _ => rfl]
  omega
theorem pass4b (l : List UInt8) (w : World) (hs : l.length ≤ 2 ^ 47) (Q : Exit → Act → World → Prop) (a : Act) (W : World) (k : Nat) (A r : List UInt8) (hF : Fr l w.heap.size a (fM l + A.length + 1 + k) (fM l + A.length + 1)) (hW : W = W2 w (hasM l) A [] 0) (hr : unM l = A ++ 46 :: r) (hk : k ≤ r.length) (hAw : A = wholeOf (unM l)) (hA0 : A ≠ []) (hd : dgB r k = false) (B : List UInt8) (hB : r.take k = B) (hB0 : B ≠ []) (hkl : k = r.length) (hsc : scanF l = some ⟨hasM l, A, B, 0⟩) (hQ : RetQ l w Q) :
    ∃ rest, findLabel (scanOf Tryd.f37) 4 = some rest ∧ rest.wp Tryd.prog (jumps (fun l' a' w' => Jn l w l' a' w' ∧ μn l l' a' w' < μn l 4 a W) Q) a W := by
  subst hW
  have hlen := fM_le l
  have hll : (unM l).length = A.length + 1 + r.length := by rw [hr]; simp; omega
  rw [(μ_lt l a _ _ hF.five).2]
  obtain ⟨u, ha⟩ := hF.open_
  clear hF
  subst ha
  obtain ⟨p, hp0⟩ : ∃ p, fM l + A.length + 1 + k = p := ⟨_, rfl⟩
  obtain ⟨f, hf⟩ : ∃ f, fM l + A.length + 1 = f := ⟨_, rfl⟩
  obtain ⟨m, hm⟩ : ∃ m, hasM l = m := ⟨_, rfl⟩
  have f0 : (0 : Int) ≤ f := by omega
  have fp : (f : Int) ≤ p := by omega
  have pl : (p : Int) ≤ l.length := by omega
  have pl2 : (p : Int) ≤ 140737488355328 := by omega
  have dd := dg_at l p p rfl false (by rw [← hp0, dgB_r hr, hd])
  have hx0 : (ByteArray.mk l.toArray).extract f p = ⟨B.toArray⟩ := by rw [extract_mid, ← hf, drop_r hr, ← hp0, Nat.add_sub_cancel_left, hB]
  have hbe := beqE hB0
  have he : (l.length : Int) = p := by omega
  have HH := hide2 (And.intro hlen (And.intro hll (And.intro hp0 (And.intro hf (And.intro hm (And.intro hr (And.intro hk (And.intro hAw hA0))))))))
  have HS := hide2 hsc
  have HQ := hide2 hQ
  rw [hp0, hf, hm]
  refine ⟨_, rfl, ?_⟩
  clear hlen hll hp0 hf hm hr hk hAw hA0 hd hsc hB hQ hkl hB0
  unfold W2
  go_wp2_with (first
    | (go_at_call 56; refine (dd _ hs (by omega)).mono ?_; rintro e w' ⟨rfl, rfl⟩))
  obtain ⟨hlen, hll, hp0, hf, hm, hr, hk, hAw, hA0⟩ := HH.out
  exact HQ.out _ _ rfl (by rw [HS.out]; rfl) (by rw [HS.out, hm]; exact heap_alloc2_old w _ _) (((Below.refl _ w).alloc (Nat.le_refl _) _).alloc (by simp) _)
theorem pass4c (l : List UInt8) (w : World) (hs : l.length ≤ 2 ^ 47) (Q : Exit → Act → World → Prop) (a : Act) (W : World) (k : Nat) (A r : List UInt8) (hF : Fr l w.heap.size a (fM l + A.length + 1 + k) (fM l + A.length + 1)) (hW : W = W2 w (hasM l) A [] 0) (hr : unM l = A ++ 46 :: r) (hk : k ≤ r.length) (hAw : A = wholeOf (unM l)) (hA0 : A ≠ []) (hd : dgB r k = false) (B : List UInt8) (hB : r.take k = B) (hB0 : B ≠ []) (c : UInt8) (ic : r[k]? = some c) (hc : ¬ (c.toNat : Int) = 101) (hsc : scanF l = none) :
    ∃ rest, findLabel (scanOf Tryd.f37) 4 = some rest ∧ rest.wp Tryd.prog (jumps (fun l' a' w' => Jn l w l' a' w' ∧ μn l l' a' w' < μn l 4 a W) Q) a W := by
  subst hW
  have hlen := fM_le l
  have hll : (unM l).length = A.length + 1 + r.length := by rw [hr]; simp; omega
  rw [(μ_lt l a _ _ hF.five).2]
  obtain ⟨u, ha⟩ := hF.open_
  clear hF
  subst ha
  obtain ⟨p, hp0⟩ : ∃ p, fM l + A.length + 1 + k = p := ⟨_, rfl⟩
  obtain ⟨f, hf⟩ : ∃ f, fM l + A.length + 1 = f := ⟨_, rfl⟩
  obtain ⟨m, hm⟩ : ∃ m, hasM l = m := ⟨_, rfl⟩
  have f0 : (0 : Int) ≤ f := by omega
  have fp : (f : Int) ≤ p := by omega
  have pl : (p : Int) ≤ l.length := by omega
  have pl2 : (p : Int) ≤ 140737488355328 := by omega
  have dd := dg_at l p p rfl false (by rw [← hp0, dgB_r hr, hd])
  have hx0 : (ByteArray.mk l.toArray).extract f p = ⟨B.toArray⟩ := by rw [extract_mid, ← hf, drop_r hr, ← hp0, Nat.add_sub_cancel_left, hB]
  have hbe := beqE hB0
  have hkl : k < r.length := (List.getElem?_eq_some_iff.1 ic).1
  have he : ¬ (p : Int) = l.length := by omega
  have hl' : (p : Int) < l.length := by omega
  have il : l[p]? = some c := by rw [← hp0, at_r hr]; exact ic
  have ek := ix_eq il
  have hkk := ix_lt il
  have lo := u8_lo c
  have hi := u8_hi c
  have HH := hide2 (And.intro hlen (And.intro hll (And.intro hp0 (And.intro hf (And.intro hm (And.intro hr (And.intro hk (And.intro hAw hA0))))))))
  have HS := hide2 hsc
  rw [hp0, hf, hm]
  refine ⟨_, rfl, ?_⟩
  clear hlen hll hp0 hf hm hr hk hAw hA0 hd hsc hB hkl ic hB0
  unfold W2
  go_wp2_with (first
    | (go_at_call 56; refine (dd _ hs (by omega)).mono ?_; rintro e w' ⟨rfl, rfl⟩))
  go_step3
  obtain ⟨hlen, hll, hp0, hf, hm, hr, hk, hAw, hA0⟩ := HH.out
  refine ⟨⟨p, f, m, A, B, fr_mk _ _ _ _ _ rfl rfl rfl rfl rfl rfl, rfl, HS.out⟩, ?_⟩
  rw [show ∀ x y, μn l 3 x y = 0 from fun _ _ => rfl]
  omega
theorem pass4e (l : List UInt8) (w : World) (hs : l.length ≤ 2 ^ 47) (Q : Exit → Act → World → Prop) (a : Act) (W : World) (k : Nat) (A r : List UInt8) (hF : Fr l w.heap.size a (fM l + A.length + 1 + k) (fM l + A.length + 1)) (hW : W = W2 w (hasM l) A [] 0) (hr : unM l = A ++ 46 :: r) (hk : k ≤ r.length) (hAw : A = wholeOf (unM l)) (hA0 : A ≠ []) (hd : dgB r k = false) (B : List UInt8) (hB : r.take k = B) (hB0 : B ≠ []) (ic : r[k]? = some 101) (q : List UInt8) (hq : r.drop (k + 1) = q) (hp : isP q = false) (hsc : scanF l = none) :
    ∃ rest, findLabel (scanOf Tryd.f37) 4 = some rest ∧ rest.wp Tryd.prog (jumps (fun l' a' w' => Jn l w l' a' w' ∧ μn l l' a' w' < μn l 4 a W) Q) a W := by
  subst hW
  have hlen := fM_le l
  have hll : (unM l).length = A.length + 1 + r.length := by rw [hr]; simp; omega
  rw [(μ_lt l a _ _ hF.five).2]
  obtain ⟨u, ha⟩ := hF.open_
  clear hF
  subst ha
  obtain ⟨p, hp0⟩ : ∃ p, fM l + A.length + 1 + k = p := ⟨_, rfl⟩
  obtain ⟨f, hf⟩ : ∃ f, fM l + A.length + 1 = f := ⟨_, rfl⟩
  obtain ⟨m, hm⟩ : ∃ m, hasM l = m := ⟨_, rfl⟩
  have f0 : (0 : Int) ≤ f := by omega
  have fp : (f : Int) ≤ p := by omega
  have pl : (p : Int) ≤ l.length := by omega
  have pl2 : (p : Int) ≤ 140737488355328 := by omega
  have dd := dg_at l p p rfl false (by rw [← hp0, dgB_r hr, hd])
  have hx0 : (ByteArray.mk l.toArray).extract f p = ⟨B.toArray⟩ := by rw [extract_mid, ← hf, drop_r hr, ← hp0, Nat.add_sub_cancel_left, hB]
  have hbe := beqE hB0
  have hkl : k < r.length := (List.getElem?_eq_some_iff.1 ic).1
  have he : ¬ (p : Int) = l.length := by omega
  have hl' : (p : Int) < l.length := by omega
  have il : l[p]? = some 101 := by rw [← hp0, at_r hr]; exact ic
  have ek := ix_eq il
  have hkk := ix_lt il
  have n101 : ((101 : UInt8).toNat : Int) = 101 := rfl
  have hx1 : (ByteArray.mk l.toArray).extract (p + 1) l.length = ⟨q.toArray⟩ := by
    rw [extract_drop, ← hp0, ← hq, Nat.add_assoc, ← List.drop_drop, drop_r hr]
  have hql : q.length ≤ 2 ^ 47 := by rw [← hq, List.length_drop]; omega
  have HH := hide2 (And.intro hlen (And.intro hll (And.intro hp0 (And.intro hf (And.intro hm (And.intro hr (And.intro hk (And.intro hAw hA0))))))))
  have HS := hide2 hsc
  rw [hp0, hf, hm]
  refine ⟨_, rfl, ?_⟩
  clear hlen hll hp0 hf hm hr hk hAw hA0 hd hsc hB hkl ic hB0 hq
  unfold W2
  go_wp2_with (first
    | (go_at_call 56; refine (dd _ hs (by omega)).mono ?_; rintro e w' ⟨rfl, rfl⟩)
    | (go_at_call 57; refine (power_at q _ hp _ hql).mono ?_; rintro e w' ⟨rfl, rfl⟩))
  go_step3
  obtain ⟨hlen, hll, hp0, hf, hm, hr, hk, hAw, hA0⟩ := HH.out
  refine ⟨⟨p, f, m, A, B, fr_mk _ _ _ _ _ rfl rfl rfl rfl rfl rfl, rfl, HS.out⟩, ?_⟩
  rw [show ∀ x y, μn l 3 x y = 0 from fun _ _ => rfl]
  omega
theorem pass4f (l : List UInt8) (w : World) (hs : l.length ≤ 2 ^ 47) (Q : Exit → Act → World → Prop) (a : Act) (W : World) (k : Nat) (A r : List UInt8) (hF : Fr l w.heap.size a (fM l + A.length + 1 + k) (fM l + A.length + 1)) (hW : W = W2 w (hasM l) A [] 0) (hr : unM l = A ++ 46 :: r) (hk : k ≤ r.length) (hAw : A = wholeOf (unM l)) (hA0 : A ≠ []) (hd : dgB r k = false) (B : List UInt8) (hB : r.take k = B) (hB0 : B ≠ []) (ic : r[k]? = some 101) (q : List UInt8) (hq : r.drop (k + 1) = q) (hp : isP q = true) (v : Int) (hv : powV q = v) (hsc : scanF l = some ⟨hasM l, A, B, v⟩) (hQ : RetQ l w Q) :
    ∃ rest, findLabel (scanOf Tryd.f37) 4 = some rest ∧ rest.wp Tryd.prog (jumps (fun l' a' w' => Jn l w l' a' w' ∧ μn l l' a' w' < μn l 4 a W) Q) a W := by
  subst hW
  have hlen := fM_le l
  have hll : (unM l).length = A.length + 1 + r.length := by rw [hr]; simp; omega
  rw [(μ_lt l a _ _ hF.five).2]
  obtain ⟨u, ha⟩ := hF.open_
  clear hF
  subst ha
  obtain ⟨p, hp0⟩ : ∃ p, fM l + A.length + 1 + k = p := ⟨_, rfl⟩
  obtain ⟨f, hf⟩ : ∃ f, fM l + A.length + 1 = f := ⟨_, rfl⟩
  obtain ⟨m, hm⟩ : ∃ m, hasM l = m := ⟨_, rfl⟩
  have f0 : (0 : Int) ≤ f := by omega
  have fp : (f : Int) ≤ p := by omega
  have pl : (p : Int) ≤ l.length := by omega
  have pl2 : (p : Int) ≤ 140737488355328 := by omega
  have dd := dg_at l p p rfl false (by rw [← hp0, dgB_r hr, hd])
  have hx0 : (ByteArray.mk l.toArray).extract f p = ⟨B.toArray⟩ := by rw [extract_mid, ← hf, drop_r hr, ← hp0, Nat.add_sub_cancel_left, hB]
  have hbe := beqE hB0
  have hkl : k < r.length := (List.getElem?_eq_some_iff.1 ic).1
  have he : ¬ (p : Int) = l.length := by omega
  have hl' : (p : Int) < l.length := by omega
  have il : l[p]? = some 101 := by rw [← hp0, at_r hr]; exact ic
  have ek := ix_eq il
  have hkk := ix_lt il
  have n101 : ((101 : UInt8).toNat : Int) = 101 := rfl
  have hx1 : (ByteArray.mk l.toArray).extract (p + 1) l.length = ⟨q.toArray⟩ := by
    rw [extract_drop, ← hp0, ← hq, Nat.add_assoc, ← List.drop_drop, drop_r hr]
  have hql : q.length ≤ 2 ^ 47 := by rw [← hq, List.length_drop]; omega
  have HH := hide2 (And.intro hlen (And.intro hll (And.intro hp0 (And.intro hf (And.intro hm (And.intro hr (And.intro hk (And.intro hAw hA0))))))))
  have HS := hide2 hsc
  have HQ := hide2 hQ
  rw [hp0, hf, hm]
  refine ⟨_, rfl, ?_⟩
  clear hlen hll hp0 hf hm hr hk hAw hA0 hd hsc hB hQ hkl ic hB0 hq
  unfold W2
  go_wp2_with (first
    | (go_at_call 56; refine (dd _ hs (by omega)).mono ?_; rintro e w' ⟨rfl, rfl⟩)
    | (go_at_call 57; refine (power_at q _ hp _ hql).mono ?_; rintro e w' ⟨rfl, rfl⟩)
    | (go_at_call 58; refine (atoi_at q v hv hp _).mono ?_; rintro e w' ⟨rfl, hb⟩; obtain ⟨HB, ⟨c0, f0'⟩, ⟨c1, f1'⟩, ⟨c2, f2'⟩, ⟨c3, f3'⟩, ⟨d0, g0'⟩, ⟨d1, g1'⟩, ⟨d2, g2'⟩, ⟨d3, g3'⟩⟩ := aft hb; have HB := hide2 HB; clear hb))
  obtain ⟨hlen, hll, hp0, hf, hm, hr, hk, hAw, hA0⟩ := HH.out
  obtain ⟨b1, b2, b3⟩ := HB.out
  have e1 : (w'.setCell ⟨w.heap.size + 1, 3, none⟩ (.int .i64 v)).heap[w.heap.size]? = some (.cells #[.bool false, .string ⟨#[]⟩, .string ⟨#[]⟩, .int .i64 0] 69 (0, 0)) := by
    rw [Below.heap_setCell _ _ _ _ (by show w.heap.size ≠ w.heap.size + 1; omega)]
    exact b1
  exact HQ.out _ _ rfl (by rw [HS.out]; rfl) (by rw [HS.out, hm]; exact set4 e1 _ _ _ _) (below_set (below_set (below_set (below_set (below_set b3 (by omega) _ _) (Nat.le_refl _) _ _) (Nat.le_refl _) _ _) (Nat.le_refl _) _ _) (Nat.le_refl _) _ _)
theorem pass3 (l : List UInt8) (w : World) (hs : l.length ≤ 2 ^ 47) (Q : Exit → Act → World → Prop) (a : Act) (W : World) (p f : Nat) (m : Bool) (x y : List UInt8) (hF : Fr l w.heap.size a p f) (hW : W = W2 w m x y 0) (hsc : scanF l = none) (hQ : RetQ l w Q) (N : Nat) :
    ∃ rest, findLabel (scanOf Tryd.f37) 3 = some rest ∧ rest.wp Tryd.prog (jumps (fun l' a' w' => Jn l w l' a' w' ∧ μn l l' a' w' < N) Q) a W := by
  subst hW
  obtain ⟨u, ha⟩ := hF.open_
  clear hF
  subst ha
  have HS := hide2 hsc
  have HQ := hide2 hQ
  refine ⟨_, rfl, ?_⟩
  clear hsc hQ
  unfold W2
  go_wp2
  exact HQ.out _ _ rfl (by rw [HS.out]; rfl) (by rw [HS.out]; exact heap_alloc2_old w _ _) (((Below.refl _ w).alloc (Nat.le_refl _) _).alloc (by simp) _)
theorem pass2c (l : List UInt8) (w : World) (hs : l.length ≤ 2 ^ 47) (Q : Exit → Act → World → Prop) (a : Act) (W : World) (p f : Nat) (m : Bool) (A : List UInt8) (hF : Fr l w.heap.size a p f) (hW : W = W2 w m A [] 0) (hA : A ≠ []) (hm : ¬ (m = true ∧ A = [48])) (hsc : scanF l = some ⟨m, A, [], 0⟩) (hQ : RetQ l w Q) (N : Nat) :
    ∃ rest, findLabel (scanOf Tryd.f37) 2 = some rest ∧ rest.wp Tryd.prog (jumps (fun l' a' w' => Jn l w l' a' w' ∧ μn l l' a' w' < N) Q) a W := by
  subst hW
  obtain ⟨u, ha⟩ := hF.open_
  clear hF
  subst ha
  have HS := hide2 hsc
  have HQ := hide2 hQ
  have hbe := beqE hA
  refine ⟨_, rfl, ?_⟩
  clear hsc hQ hA
  unfold W2
  cases m with
  | false =>
    clear hm
    go_wp2
    exact HQ.out _ _ rfl (by rw [HS.out]; rfl) (by rw [HS.out]; exact heap_alloc2_old w _ _) (((Below.refl _ w).alloc (Nat.le_refl _) _).alloc (by simp) _)
  | true =>
    have hb2 := beqE (show A ≠ [48] from fun e => hm ⟨rfl, e⟩)
    clear hm
    go_wp2
    exact HQ.out _ _ rfl (by rw [HS.out]; rfl) (by rw [HS.out]; exact heap_alloc2_old w _ _) (((Below.refl _ w).alloc (Nat.le_refl _) _).alloc (by simp) _)
theorem pass2a (l : List UInt8) (w : World) (hs : l.length ≤ 2 ^ 47) (Q : Exit → Act → World → Prop) (a : Act) (W : World) (p f : Nat) (m : Bool) (A : List UInt8) (hF : Fr l w.heap.size a p f) (hW : W = W2 w m A [] 0) (hA : A = [] ∨ (m = true ∧ A = [48])) (hsc : scanF l = none) (hQ : RetQ l w Q) (N : Nat) :
    ∃ rest, findLabel (scanOf Tryd.f37) 2 = some rest ∧ rest.wp Tryd.prog (jumps (fun l' a' w' => Jn l w l' a' w' ∧ μn l l' a' w' < N) Q) a W := by
  subst hW
  obtain ⟨u, ha⟩ := hF.open_
  clear hF
  subst ha
  have HS := hide2 hsc
  have HQ := hide2 hQ
  refine ⟨_, rfl, ?_⟩
  clear hsc hQ
  unfold W2
  rcases hA with rfl | ⟨rfl, rfl⟩
  · go_wp2
    go_step3
    go_wp2
    exact HQ.out _ _ rfl (by rw [HS.out]; rfl) (by rw [HS.out]; exact heap_alloc2_old w _ _) (((Below.refl _ w).alloc (Nat.le_refl _) _).alloc (by simp) _)
  · go_wp2
    go_step3
    go_wp2
    exact HQ.out _ _ rfl (by rw [HS.out]; rfl) (by rw [HS.out]; exact heap_alloc2_old w _ _) (((Below.refl _ w).alloc (Nat.le_refl _) _).alloc (by simp) _)
end Go.Proofs.YthfmepnlbaifcaaDoor
