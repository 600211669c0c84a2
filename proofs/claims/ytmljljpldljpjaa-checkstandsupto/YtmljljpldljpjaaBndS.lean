import Derived.Test.YtmljljpldljpjaaBndA
import Derived.Test.YtmljljpldljpjaaBndH
import Derived.BigQuiet
/-
  What makes one configuration another, merged into the one, makes the other: plain.
-/
namespace Go.Proofs.Ytmljljpldljpjaa
open Go.RowKit
set_option linter.unusedVariables false
set_option linter.unusedSimpArgs false
theorem kx_ext : ∀ {l m : List (Int × ByteArray)}, l.Pairwise klt → m.Pairwise klt → (∀ r, r ∈ l ↔ r ∈ m) → l = m
  | [], [], _, _, _ => rfl
  | [], b :: m, _, _, h => by have := (h b).2 (by simp); simp at this
  | a :: l, [], _, _, h => by have := (h a).1 (by simp); simp at this
  | a :: l, b :: m, hl, hm, h => by
    obtain ⟨hl1, hl2⟩ := List.pairwise_cons.1 hl
    obtain ⟨hm1, hm2⟩ := List.pairwise_cons.1 hm
    have hab : a = b := by
      rcases List.mem_cons.1 ((h a).1 (by simp)) with e | e
      · exact e
      · rcases List.mem_cons.1 ((h b).2 (by simp)) with e' | e'
        · exact e'.symm
        · exact absurd (hm1 a e) (klt_asymm (hl1 b e'))
    subst hab
    congr 1
    refine kx_ext hl2 hm2 (fun r => ⟨fun hr => ?_, fun hr => ?_⟩)
    · rcases List.mem_cons.1 ((h r).1 (by simp [hr])) with e | e
      · subst e; exact absurd (hl1 r hr) (klt_irrefl _)
      · exact e
    · rcases List.mem_cons.1 ((h r).2 (by simp [hr])) with e | e
      · subst e; exact absurd (hm1 r hr) (klt_irrefl _)
      · exact e
theorem KS.keys {l : List Rs} (h : KS l) : (l.map Rs.key).Pairwise klt := List.pairwise_map.2 h
theorem ks_first {l : List Rs} (h : KS l) {j : Nat} {r : Rs} (hj : l[j]? = some r) : firstsF l r.key = some j := by
  refine firstsF_at (fun i x hi hx e => ?_) hj rfl
  have hi' := (List.getElem?_eq_some_iff.1 hx)
  have hj' := (List.getElem?_eq_some_iff.1 hj)
  obtain ⟨h1, e1⟩ := hi'
  obtain ⟨h2, e2⟩ := hj'
  have := (List.pairwise_iff_getElem.1 h) i j h1 h2 hi
  rw [e1, e2, e] at this
  exact klt_irrefl _ this
theorem firstsF_some_mem {l : List Rs} {r : Rs} (h : r ∈ l) : ∃ j, firstsF l r.key = some j := by
  rcases hf : firstsF l r.key with _ | j
  · exact absurd rfl (firstsF_none_iff.1 hf r h)
  · exact ⟨j, rfl⟩
def diffL (sb : Rs → Rs → Bool) (F T : List Rs) : List Rs := foldP (delsL F T F.length ++ newsL sb F T T.length)
theorem diffL_KS (sb : Rs → Rs → Bool) (F T : List Rs) : KS (diffL sb F T) := (foldP_spec (diff_nodup sb F T _ _)).1
theorem diffL_mem {sb : Rs → Rs → Bool} {F T : List Rs} (hF : KS F) (hT : KS T) {x : Rs} :
    x ∈ diffL sb F T ↔ (∃ r ∈ F, (∀ t ∈ T, t.key ≠ r.key) ∧ x = delR r) ∨ (x ∈ T ∧ ∀ q ∈ F, q.key = x.key → sb q x = false) := by
  unfold diffL
  rw [(foldP_spec (diff_nodup sb F T _ _)).2, List.mem_append]
  constructor
  · rintro (h | h)
    · obtain ⟨j, r, _, hr, _, hn, rfl⟩ := delsL_spec h
      exact .inl ⟨r, List.mem_of_getElem? hr, firstsF_none_iff.1 hn, rfl⟩
    · refine .inr ?_
      unfold newsL at h
      obtain ⟨j, hj, hx⟩ := List.mem_filterMap.1 h
      rcases hTj : T[j]? with _ | r
      · rw [hTj] at hx; cases hx
      · rw [hTj] at hx
        dsimp only at hx
        by_cases hg : newB sb F T j r = true
        · rw [if_pos hg] at hx
          cases hx
          refine ⟨List.mem_of_getElem? hTj, fun q hq e => ?_⟩
          unfold newB at hg
          rw [Bool.and_eq_true] at hg
          have h2 := hg.2
          obtain ⟨i, hi⟩ := List.getElem?_of_mem hq
          have hfi := ks_first hF hi
          rw [e] at hfi
          rw [hfi] at h2
          dsimp only at h2
          rw [hi] at h2
          simpa using h2
        · rw [if_neg hg] at hx; cases hx
  · rintro (⟨r, hr, hn, rfl⟩ | ⟨hx, hq⟩)
    · refine .inl ?_
      obtain ⟨i, hi⟩ := List.getElem?_of_mem hr
      unfold delsL
      refine List.mem_filterMap.2 ⟨i, by simpa using (List.getElem?_eq_some_iff.1 hi).1, ?_⟩
      rw [hi]
      dsimp only
      rw [if_pos]
      unfold goneB
      rw [ks_first hF hi, firstsF_none_iff.2 hn]; simp
    · refine .inr ?_
      obtain ⟨i, hi⟩ := List.getElem?_of_mem hx
      unfold newsL
      refine List.mem_filterMap.2 ⟨i, by simpa using (List.getElem?_eq_some_iff.1 hi).1, ?_⟩
      rw [hi]
      dsimp only
      rw [if_pos]
      unfold newB
      rw [ks_first hT hi]
      rcases hf : firstsF F x.key with _ | j
      · simp
      · obtain ⟨q, hqj, hqk⟩ := firstsF_get hf
        simp [hqj, hq q (List.mem_of_getElem? hqj) hqk]
/-- no document of it is wrong -/
theorem back_err {sb : Rs → Rs → Bool} {F T : List Rs} (hF : Ordd F) (hT : Ordd T) : ∀ (j : Nat) (x : Rs), (diffL sb F T)[j]? = some x → errF F (diffL sb F T) j x = 0 := by
  intro j x hj
  have hx := (diffL_mem hF.ks hT.ks).1 (List.mem_of_getElem? hj)
  have hk : 1 ≤ x.kd ∧ x.kd ≤ 4 := by
    rcases hx with ⟨r, hr, _, rfl⟩ | ⟨hx, _⟩
    · exact ⟨(hF.kind r hr).1, (hF.kind r hr).2.1⟩
    · exact ⟨(hT.kind x hx).1, (hT.kind x hx).2.1⟩
  unfold errF
  rw [if_neg (by omega), if_neg (by rw [ks_first (diffL_KS sb F T) hj]; simp), if_neg]
  rintro ⟨hd, hn⟩
  rcases hx with ⟨r, hr, _, rfl⟩ | ⟨hx, _⟩
  · exact firstsF_none_iff.1 hn r hr rfl
  · rw [(hT.kind x hx).2.2] at hd; cases hd
structure BackI (sb : Rs → Rs → Bool) (F T M : List Rs) : Prop where
  ks : KS M
  keys : M.map Rs.key = T.map Rs.key
  same : ∀ x ∈ M, ∀ t ∈ T, x.key = t.key → sb x t = true
theorem back_spec {sb : Rs → Rs → Bool} (hr : ∀ a, sb a a = true) {F T : List Rs} (hF : Ordd F) (hT : Ordd T) : BackI sb F T (allM F (diffL sb F T) (diffL sb F T).length) := by
  have hE := back_err (sb := sb) hF hT
  have hA := allI_of hF.ks (Nat.le_refl _) (fun j x _ hx => hE j x hx)
  have hmem : ∀ x, x ∈ allM F (diffL sb F T) (diffL sb F T).length ↔ (x ∈ F ∧ ∀ d ∈ diffL sb F T, d.key ≠ x.key) ∨ (x ∈ diffL sb F T ∧ x.del = false) := fun x => by
    rw [hA.mem, List.take_length]
  have h1 : ∀ x ∈ allM F (diffL sb F T) (diffL sb F T).length, ∃ t ∈ T, t.key = x.key ∧ sb x t = true := by
    intro x hx
    rcases (hmem x).1 hx with ⟨hxF, hd⟩ | ⟨hxD, hdel⟩
    · by_cases hex : ∃ t ∈ T, t.key = x.key
      · obtain ⟨t, ht, hk⟩ := hex
        refine ⟨t, ht, hk, ?_⟩
        cases hs : sb x t
        · exfalso
          refine hd t ((diffL_mem hF.ks hT.ks).2 (.inr ⟨ht, fun q hq e => ?_⟩)) hk
          obtain rfl := hF.ks.one hq hxF (e.trans hk)
          exact hs
        · rfl
      · exfalso
        exact hd (delR x) ((diffL_mem hF.ks hT.ks).2 (.inl ⟨x, hxF, fun t ht e => hex ⟨t, ht, e⟩, rfl⟩)) rfl
    · rcases (diffL_mem hF.ks hT.ks).1 hxD with ⟨r, _, _, rfl⟩ | ⟨hxT, _⟩
      · cases hdel
      · exact ⟨x, hxT, rfl, hr x⟩
  have h2 : ∀ t ∈ T, ∃ x ∈ allM F (diffL sb F T) (diffL sb F T).length, x.key = t.key := by
    intro t ht
    by_cases hD : t ∈ diffL sb F T
    · exact ⟨t, (hmem t).2 (.inr ⟨hD, (hT.kind t ht).2.2⟩), rfl⟩
    · have : ∃ q ∈ F, q.key = t.key := by
        refine Classical.byContradiction fun hn => hD ((diffL_mem hF.ks hT.ks).2 (.inr ⟨ht, fun q hq e => absurd ⟨q, hq, e⟩ hn⟩))
      obtain ⟨q, hq, hk⟩ := this
      refine ⟨q, (hmem q).2 (.inl ⟨hq, fun d hd e => ?_⟩), hk⟩
      rcases (diffL_mem hF.ks hT.ks).1 hd with ⟨r, _, hn, rfl⟩ | ⟨hdT, _⟩
      · exact hn t ht (hk.symm.trans e.symm)
      · have := hT.ks.one hdT ht (e.trans hk)
        rw [this] at hd
        exact hD hd
  refine ⟨hA.ks, kx_ext hA.ks.keys hT.ks.keys fun k => ?_, fun x hx t ht e => ?_⟩
  · constructor
    · intro hk
      obtain ⟨x, hx, rfl⟩ := List.mem_map.1 hk
      obtain ⟨t, ht, e, _⟩ := h1 x hx
      exact List.mem_map.2 ⟨t, ht, e⟩
    · intro hk
      obtain ⟨t, ht, rfl⟩ := List.mem_map.1 hk
      obtain ⟨x, hx, e⟩ := h2 t ht
      exact List.mem_map.2 ⟨x, hx, e⟩
  · obtain ⟨t', ht', e', hs⟩ := h1 x hx
    obtain rfl := hT.ks.one ht' ht (e'.trans e)
    exact hs
theorem back_none {sb : Rs → Rs → Bool} (hr : ∀ a, sb a a = true) {F T : List Rs} (hF : Ordd F) (hT : Ordd T) (h0 : astF F = F.length) (hl : T.length ≤ 64) : mrF F (diffL sb F T) = none := by
  have hE := back_err (sb := sb) hF hT
  unfold mrF
  rw [if_neg (fun h => h h0), wrongF_none hE]
  dsimp only
  rw [if_neg]
  have h1 := (merg_perm hF hE).1.length_eq
  have h2 := congrArg List.length (back_spec hr hF hT).keys
  rw [List.length_map, List.length_map] at h2
  omega
/-- what makes one list one of the same keys and the same resources is nothing -/
theorem diffL_nil {sb : Rs → Rs → Bool} {F T : List Rs} (hF : KS F) (hT : KS T) (hk : ∀ k, k ∈ F.map Rs.key ↔ k ∈ T.map Rs.key) (hs : ∀ q ∈ F, ∀ x ∈ T, q.key = x.key → sb q x = true) : diffL sb F T = [] := by
  rw [List.eq_nil_iff_forall_not_mem]
  intro x hx
  rcases (diffL_mem hF hT).1 hx with ⟨r, hr, hn, _⟩ | ⟨hxT, hq⟩
  · obtain ⟨t, ht, e⟩ := List.mem_map.1 ((hk r.key).1 (List.mem_map_of_mem hr))
    exact hn t ht e
  · obtain ⟨q, hqF, e⟩ := List.mem_map.1 ((hk x.key).2 (List.mem_map_of_mem hxT))
    have h1 := hq q hqF e
    rw [hs q hqF x hxT e] at h1
    cases h1
end Go.Proofs.Ytmljljpldljpjaa

/-
  What CheckStands asks: plain.
-/
namespace Go.Proofs.Ytmljljpldljpjaa
open Go.RowKit
set_option linter.unusedVariables false
set_option linter.unusedSimpArgs false
theorem lookF_lt {p : Nat → Rs → Option Nat} {C : List Rs} {i k : Nat} (h : lookF p C = some (i, k)) : i < C.length := by
  unfold lookF at h
  obtain ⟨j, hj, hx⟩ := List.exists_of_findSome?_eq_some h
  have hjl : j < C.length := by simpa using hj
  rw [List.getElem?_eq_getElem hjl] at hx
  simp at hx
  omega
theorem chk_doc (C : List Rs) : (chkF C).1 < C.length ∨ (chkF C).1 = 0 := by
  unfold chkF fltF
  by_cases h1 : astF C ≠ C.length
  · rw [if_pos h1]; exact .inl (by have := astF_le C; show astF C < _; omega)
  · rw [if_neg h1]
    by_cases h2 : 64 < C.length
    · rw [if_pos h2]; exact .inr rfl
    · rw [if_neg h2]
      rcases e1 : lk1 C with _ | ⟨i, k⟩
      · rcases e2 : lk2 C with _ | ⟨i, k⟩
        · rcases e3 : lk3 C with _ | ⟨i, k⟩
          · rcases e4 : lk4 C with _ | ⟨i, k⟩
            · exact .inr rfl
            · exact .inl (lookF_lt e4)
          · exact .inl (lookF_lt e3)
        · exact .inl (lookF_lt e2)
      · exact .inl (lookF_lt e1)
theorem stand_dep {C : List Rs} (h : ChkG C) {i : Nat} {r : Rs} (hi : C[i]? = some r) (h2 : r.kd = 2) : ∃ d, Dep C r.key d ∧ d ≤ 8 := by
  have := lookF_all h.l4 hi
  unfold rinF at this
  have hn : ¬ dR C 8 r.key = 0 := fun h0 => by rw [if_pos ⟨h2, h0⟩] at this; cases this
  exact ⟨dR C 8 r.key, ⟨hn, 8, rfl⟩, dR_le C 8 _⟩
theorem stand_to {C : List Rs} (h : ChkG C) {i : Nat} {r : Rs} {t : Tg} (hi : C[i]? = some r) (h2 : r.kd = 2) (ht : t ∈ r.tgs) : ∃ (j : Nat) (q : Rs), C[j]? = some q ∧ q.key = namF t ∧ (q.kd = 2 → Edge C r.key q.key) := by
  have hn := loo_split h.l1 r (List.mem_of_getElem? hi) h2 t ht
  rcases hf : firstsF C (namF t) with _ | j
  · exact absurd hf hn
  · obtain ⟨q, hq, hk⟩ := firstsF_get hf
    refine ⟨j, q, hq, hk, fun hq2 => ⟨t, ?_, hk.symm, by show q.key.1 = 2; exact hq2⟩⟩
    rw [tgF_at (ks_first (astF_ord h.ord).ks hi) hi]
    exact ht
theorem nam_sv {t : Tg} {q : Rs} (hs : ¬ t.sv = ⟨#[]⟩) : q.key = namF t ↔ (q.kd == 1) = true ∧ (q.nm.toList == t.sv.toList) = true := by
  unfold namF Rs.key
  rw [if_neg hs, Prod.mk.injEq, beq_iff_eq, beq_iff_eq]
  exact ⟨fun ⟨h1, h2⟩ => ⟨h1, by rw [h2]⟩, fun ⟨h1, h2⟩ => ⟨h1, ba_toList_inj h2⟩⟩
theorem nam_sp {t : Tg} {q : Rs} (hs : t.sv = ⟨#[]⟩) : q.key = namF t ↔ (q.kd == 2) = true ∧ (q.nm.toList == t.sp.toList) = true := by
  unfold namF Rs.key
  rw [if_pos hs, Prod.mk.injEq, beq_iff_eq, beq_iff_eq]
  exact ⟨fun ⟨h1, h2⟩ => ⟨h1, by rw [h2]⟩, fun ⟨h1, h2⟩ => ⟨h1, ba_toList_inj h2⟩⟩
/-- where the one of a key stands, among the first k -/
def ToI (C : List Rs) (ky : Ky) (k : Nat) (x : Int) : Prop := (x = -1 ∧ ∀ (j : Nat) (q : Rs), j < k → C[j]? = some q → q.key ≠ ky) ∨ ∃ (j : Nat) (q : Rs), j < k ∧ x = (j : Int) ∧ C[j]? = some q ∧ q.key = ky
theorem ToI.skip {C : List Rs} {ky : Ky} {k : Nat} {x : Int} {r : Rs} (h : ToI C ky k x) (hr : C[k]? = some r) (hn : r.key ≠ ky) : ToI C ky (k + 1) x := by
  rcases h with ⟨h1, h2⟩ | ⟨j, q, h1, h2⟩
  · refine .inl ⟨h1, fun j q hj hq => ?_⟩
    by_cases e : j < k
    · exact h2 j q e hq
    · obtain rfl : j = k := by omega
      rw [hr] at hq; cases hq; exact hn
  · exact .inr ⟨j, q, by omega, h2⟩
theorem ToI.put {C : List Rs} {ky : Ky} {k : Nat} {r : Rs} (hr : C[k]? = some r) (hk : r.key = ky) : ToI C ky (k + 1) k := .inr ⟨k, r, by omega, rfl, hr, hk⟩
theorem ToI.done {C : List Rs} {ky : Ky} {x : Int} (hC : KS C) {n : Nat} (hn : C.length ≤ n) (h : ToI C ky n x) {j : Nat} {q : Rs} (hj : C[j]? = some q) (hq : q.key = ky) : x = (j : Int) := by
  rcases h with ⟨h1, h2⟩ | ⟨i, p, _, h2, h3, h4⟩
  · exact absurd hq (h2 j q (by have := (List.getElem?_eq_some_iff.1 hj).1; omega) hj)
  · have e1 := ks_first hC hj
    have e2 := ks_first hC h3
    rw [hq] at e1
    rw [h4, e1] at e2
    cases e2
    exact h2
end Go.Proofs.Ytmljljpldljpjaa

/-
  The walk of CheckStands.
-/
namespace Go.Proofs.Ytmljljpldljpjaa
open Go.RowKit
set_option linter.unusedVariables false
set_option linter.unusedSimpArgs false
set_option maxRecDepth 100000
def intR (x : Int) : List Value := [.int .i64 x]
theorem Cel.icell {w : World} {a : Option Addr} {os : List Int} (h : Cel w a 1 (os.map intR)) {i : Nat} {x : Int} (hi : os[i]? = some x) : ∃ g off, a = some ⟨g, off, none⟩ ∧ w.cell? ⟨g, off + i, none⟩ = some (.int .i64 x) := by
  obtain ⟨g, off, e, hc⟩ := h.at_ hi
  exact ⟨g, off, e, by have := hc 0 _ rfl; rwa [Nat.add_zero, Nat.mul_one] at this⟩
set_option maxHeartbeats 64000000 in
theorem checkStands_any (w : World) (a b : Option Addr) (n m c1 c2 : Nat) (F : List Rx) (P : List Int) (hF : Lr w a F) (hbF : ∀ o ∈ F, Bare o) (hP : Cel w b 1 (P.map intR)) (hPk : ∀ x ∈ P, -9223372036854775808 ≤ x ∧ x ≤ 9223372036854775807) (hn : F.length = n) (hm : P.length = m) (hs : n ≤ 1048576) (hs2 : m ≤ 1048576) :
    Calls Try.prog 8 #[.slice a n c1, .slice b m c2] w fun e w' => e = .returned (.bool true) ∧ Below w.heap.size w w' := by
  subst hn hm
  have HF := hideL hF
  have HBF := hideL hbF
  have HP := hideL hP
  have HPK := hideL hPk
  clear hF hbF hP hPk
  go_enter Try.func8, Try.ntmps8
  go_wp2_with fail
  refine (awake_any w).mono ?_
  rintro e w1 ⟨rfl, hb1⟩
  have HB1 := hideL hb1
  clear hb1
  go_wp2_with fail
  refine (own_e w1 a c1 F (HF.out.below HB1.out) HBF.out hs).mono ?_
  rintro e w2 ⟨a2, k2, A, rfl, hA1, hA2, hA3, hA4, hb2⟩
  have HCH : Hid (Calls Try.prog 14 #[.slice a2 F.length k2] w2 fun e w' => ChE w2 (F.map Rx.toRs) e w') := by
    have := check_any w2 a2 F.length k2 A hA3 hA1 (by omega)
    rw [hA4] at this
    exact this
  have HB2 := hideL (HB1.out.trans (hb2.mono HB1.out.size))
  clear hA1 hA2 hA3 hA4 hb2
  go_wp2_with fail
  refine HCH.out.mono ?_
  rintro e w3 (⟨hx, rfl, hb3⟩ | ⟨_, hG, v, rfl, hown, hb3⟩)
  · have hdoc := chk_doc (F.map Rx.toRs)
    rw [List.length_map] at hdoc
    have HB3 := hideL (HB2.out.trans (hb3.mono HB2.out.size))
    generalize chkF (F.map Rx.toRs) = x at hx hdoc
    obtain ⟨i, k, x⟩ := x
    unfold fltV
    dsimp only at hx hdoc ⊢
    have hx' : (x != 0) = true := by simpa using hx
    have i0 : (0 : Int) ≤ i := by omega
    have k0 : (0 : Int) ≤ k := by omega
    clear hx hb3 HCH
    by_cases hil : i < F.length
    · have hil' : (i : Int) < F.length := by omega
      go_wp2
      go_ret
      exact ⟨rfl, HB3.out.trans ((Gr.alloc _ _).below.mono HB3.out.size)⟩
    · have hil' : ¬ (i : Int) < F.length := by omega
      obtain rfl : i = 0 := by omega
      have hF0 : ¬ 0 < F.length := hil
      clear hdoc
      go_wp2
      go_ret
      exact ⟨rfl, HB3.out.trans ((Gr.alloc _ _).below.mono HB3.out.size)⟩
  · have HGC := hideL hG
    have HB3 := hideL (HB2.out.trans (hb3.mono HB2.out.size))
    have HKS := hideL (astF_ord hG.ord).ks
    obtain ⟨va, vc, rfl, _⟩ := own_form hown
    have hn64 : F.length ≤ 64 := by have := hG.len; rwa [List.length_map] at this
    rw [show fltV (0, 0, 0) = .agg #[.int .i64 0, .int .i64 0, .int .i64 0] from rfl]
    obtain ⟨nw, hnw⟩ : ∃ X, (wnC (F.map Rx.toRs) (F.map Rx.toRs).length).length = X := ⟨_, rfl⟩
    rw [hnw]
    clear hG hb3 hown HCH hnw
    go_wp2_with fail
    obtain ⟨w4, hw4⟩ : ∃ X, w3.alloc (.cells #[.int .i64 0, .int .i64 0, .int .i64 0] 33 (0, 0)) = X := ⟨_, rfl⟩
    rw [hw4]
    have HB4 : Hid (Below w.heap.size w w4) := by rw [← hw4]; exact HB3.out.trans ((Gr.alloc _ _).below.mono HB3.out.size)
    clear hw4
    go_loopw [7, 8] (fun v t wr => ∃ (p i : Nat), v = .int .i64 p ∧ t = .int .i64 i ∧ i ≤ F.length ∧ p ≤ P.length ∧ Gr w4 wr) (fun _ t _ => F.length - (intOf t).toNat)
    case atStart => exact ⟨0, 0, rfl, rfl, by omega, by omega, Gr.refl _⟩
    case round =>
      obtain ⟨p, i, rfl, rfl, hi, hp, hgr⟩ := hrel
      rename World => wo
      have HG := hideL hgr
      have HBO := hideL (HB4.out.trans (hgr.below.mono HB4.out.size))
      clear hgr
      have i0 : (0 : Int) ≤ i := by omega
      by_cases h3 : i < F.length
      · have h3' : (i : Int) < F.length := by omega
        rcases hki : F[i]? with _ | o
        · have := List.getElem?_eq_none_iff.1 hki; omega
        have HKI := hideL hki
        obtain ⟨g, off, rfl, d0, -, -, d3, -⟩ := (HF.out.row.below HBO.out).cells hki
        clear hki
        by_cases hk2 : o.kd = 2
        · have hk2' : (o.kd != 2) = false := by simp [hk2]
          by_cases ht0 : o.tgs.length = 0
          · have ht0' : ((o.tgs.length : Int) == 0) = true := by simp [ht0]
            clear hk2
            go_wp2_with fail
            go_roundw
            case rel => exact ⟨p, i + 1, rfl, by go_num, by omega, hp, HG.out⟩
            case measure => simp [intOf]; omega
          · have ht0' : ((o.tgs.length : Int) == 0) = false := by simp [ht0]
            obtain ⟨d, hdep, hd8⟩ := stand_dep HGC.out (i := i) (r := o.toRs) (by simp [HKI.out]) hk2
            have HD : Hid (∃ (o : Rx) (d : Nat), F[i]? = some o ∧ o.kd = 2 ∧ 0 < o.tgs.length ∧ Dep (F.map Rx.toRs) o.toRs.key d ∧ 0 + d ≤ 8) := ⟨o, d, HKI.out, hk2, by omega, hdep, by omega⟩
            clear hk2 hdep
            go_wp2_with fail
            clear d0 d3 hk2' ht0' ht0
            go_loopw [7, 9, 10] (fun v t u ws => ∃ (p at_ st : Nat), v = .int .i64 p ∧ t = .int .i64 at_ ∧ u = .int .i64 st ∧ p ≤ P.length ∧ st ≤ 8 ∧ Gr wo ws ∧ Hid (∃ (o : Rx) (d : Nat), F[at_]? = some o ∧ o.kd = 2 ∧ 0 < o.tgs.length ∧ Dep (F.map Rx.toRs) o.toRs.key d ∧ st + d ≤ 8)) (fun _ _ u _ => 9 - (intOf u).toNat)
            case atStart => exact ⟨p, i, 0, rfl, rfl, rfl, hp, by omega, Gr.refl _, HD.out⟩
            case round =>
              clear hp HD
              obtain ⟨p, j, st, rfl, rfl, rfl, hp, hst, hgs, HQ⟩ := hrel
              rename World => wp
              have HGS := hideL hgs
              clear hgs
              have HBP := hideL (HBO.out.trans (HGS.out.below.mono HBO.out.size))
              obtain ⟨o2, d, hko, hk2, htp, hdep, hsd⟩ := HQ.out
              have hd1 : 1 ≤ d := Nat.pos_of_ne_zero hdep.1
              have hst7 : ¬ (8 : Int) ≤ st := by omega
              have hst8 : decide ((8 : Int) ≤ st) = false := by simp; omega
              have HRO := hideL (HF.out.each o2 (List.mem_of_getElem? hko))
              have hjl : j < F.length := (List.getElem?_eq_some_iff.1 hko).1
              have hjl' : (j : Int) < F.length := by omega
              have j0 : (0 : Int) ≤ j := by omega
              have p0 : (0 : Int) ≤ p := by omega
              have HKO := hideL hko
              have HK2 := hideL hk2
              have HDP := hideL hdep
              have HSD := hideL hsd
              obtain ⟨g', off', e', -, -, -, d3, -⟩ := (HF.out.row.below HBP.out).cells hko
              cases e'
              obtain ⟨L2, hL2⟩ : ∃ L, o2.tgs.length = L := ⟨_, rfl⟩
              rw [hL2] at d3 htp
              have HL2 := hideL hL2
              have hL2m : L2 ≤ 1048576 := by rw [← hL2]; exact HRO.out.lt
              have hL20 : ((L2 : Int) == 0) = false := by simp; omega
              have hL21 : ¬ (L2 : Int) = 0 := by omega
              clear hko hk2 hdep hsd hL2 HQ hd1
              go_upto_if 75 with fail
              go_cut [7, 11] (fun v k wx => ∃ (p' kk : Nat), v = .int .i64 p' ∧ k = .int .i64 kk ∧ p' ≤ P.length ∧ kk < L2 ∧ Gr wp wx)
              case first =>
                by_cases hpl : p < P.length
                · have hpl' : (p : Int) < P.length := by omega
                  have hpl2 : decide ((p : Int) < P.length) = true := by simp; omega
                  rcases hpx : P[p]? with _ | x
                  · have := List.getElem?_eq_none_iff.1 hpx; omega
                  obtain ⟨g3, off3, eb, cx⟩ := (HP.out.below HBP.out).icell hpx
                  have hxk := HPK.out x (List.mem_of_getElem? hpx)
                  subst eb
                  obtain ⟨T, hT⟩ : ∃ T, x.tmod (L2 : Int) = T := ⟨_, rfl⟩
                  have t1 : -(L2 : Int) < T := by rw [← hT]; exact Int.lt_tmod_of_pos x (by omega)
                  have t2 : T < (L2 : Int) := by rw [← hT]; exact Int.tmod_lt_of_pos x (by omega)
                  clear hpx hpl
                  go_wp2_with fail
                  go_quiet (fail)
                  by_cases hT0 : T < 0
                  · have hT1 : decide (T < 0) = true := by simpa using hT0
                    go_wp2_with fail
                    go_meet
                    case rel => exact ⟨p + 1, (-T).toNat, by go_num, congrArg (Value.int .i64) (by omega), by omega, by omega, Gr.drewN _ _⟩
                  · have hT1 : decide (T < 0) = false := by simpa using hT0
                    go_wp2_with fail
                    go_meet
                    case rel => exact ⟨p + 1, T.toNat, by go_num, congrArg (Value.int .i64) (by omega), by omega, by omega, Gr.drewN _ _⟩
                · have hpl' : ¬ (p : Int) < P.length := by omega
                  have hpl2 : decide ((p : Int) < P.length) = false := by simp; omega
                  go_wp2_with fail
                  go_meet
                  case rel => exact ⟨p, 0, rfl, rfl, hp, by omega, Gr.refl _⟩
              case rest =>
                obtain ⟨p2, kk, rfl, rfl, hp2, hkk, hgc⟩ := hcut
                have HGC2 := hideL hgc
                have HBC := hideL (HBP.out.trans (hgc.below.mono HBP.out.size))
                have kk' : (kk : Int) < L2 := by omega
                have kk0 : (0 : Int) ≤ kk := by omega
                rcases hkt : o2.tgs[kk]? with _ | t
                · have := List.getElem?_eq_none_iff.1 hkt; have := HL2.out; omega
                have HKT := hideL hkt
                clear d3
                obtain ⟨g', off', e', -, -, -, d3, -⟩ := (HF.out.row.below HBC.out).cells HKO.out
                cases e'
                rw [HL2.out] at d3
                obtain ⟨g4, off4, et, c0, c1, c2⟩ := (HRO.out.below HBC.out).ts.tcells hkt
                rw [et] at d3
                obtain ⟨jt, q, hjt, hqk, hqe⟩ := stand_to HGC.out (i := j) (r := o2.toRs) (t := t) (by simp [HKO.out]) HK2.out (List.mem_of_getElem? hkt)
                have HJT := hideL hjt
                have HQK := hideL hqk
                have HQE := hideL hqe
                have st_ := st_float
                clear hkt hgc hjt hqk hqe hp hst7 hst8
                rename World => wc
                obtain ⟨w6, hw6⟩ : ∃ X, wc.alloc (.cells #[.string t.sv, .string t.sp, .float .f64 t.wt] 57 (0, 0)) = X := ⟨_, rfl⟩
                have HG6 : Hid (Gr wc w6) := by rw [← hw6]; exact Gr.alloc _ _
                obtain ⟨b0, b1, b2⟩ : w6.cell? ⟨wc.heap.size, 0, none⟩ = some (.string t.sv) ∧ w6.cell? ⟨wc.heap.size, 1, none⟩ = some (.string t.sp) ∧ w6.cell? ⟨wc.heap.size, 2, none⟩ = some (.float .f64 t.wt) := by
                  rw [← hw6]; exact f3_cells (heap_alloc_new wc _)
                have HB6 := hideL (HBC.out.trans (HG6.out.below.mono HBC.out.size))
                have HBX := hideL (And.intro b0 b1)
                go_wp2_with fail
                obtain ⟨B7, hB7⟩ : ∃ X, wc.heap.size = X := ⟨_, rfl⟩
                rw [hB7] at HBX ⊢
                clear b0 b1 b2 c0 c1 c2 st_ d3 hw6 hB7
                go_loopw [13, 14] (fun v t' ws => ∃ (k : Nat) (x : Int), v = .int .i64 x ∧ t' = .int .i64 k ∧ k ≤ F.length ∧ Gr w6 ws ∧ Hid (ToI (F.map Rx.toRs) (namF t) k x)) (fun _ t' _ => F.length - (intOf t').toNat)
                case atStart => exact ⟨0, -1, rfl, rfl, by omega, Gr.refl _, .inl ⟨rfl, fun _ _ h => by omega⟩⟩
                case round =>
                  obtain ⟨k, x, rfl, rfl, hk, hg7, HTO⟩ := hrel
                  have HG7 := hideL hg7
                  clear hg7
                  have k0 : (0 : Int) ≤ k := by omega
                  have HB7 := hideL (HB6.out.trans (HG7.out.below.mono HB6.out.size))
                  have b0 := HG7.out.cell HBX.out.1
                  have b1 := HG7.out.cell HBX.out.2
                  by_cases h4 : k < F.length
                  · have h4' : (k : Int) < F.length := by omega
                    rcases hkq : F[k]? with _ | q'
                    · have := List.getElem?_eq_none_iff.1 hkq; omega
                    have HKQ : Hid ((F.map Rx.toRs)[k]? = some q'.toRs) := by unfold Hid; simp [hkq]
                    obtain ⟨g', off', e', y0, y1, -⟩ := (HF.out.row.below HB7.out).cells hkq
                    cases e'
                    clear hkq
                    cases he : t.sv.toList.isEmpty
                    · have HNM : Hid (q'.toRs.key = namF t ↔ (q'.kd == 1) = true ∧ (q'.nm.toList == t.sv.toList) = true) := nam_sv (fun h => by rw [h] at he; simp [ByteArray.toList_eq] at he)
                      cases hc1 : (q'.kd == 1)
                      · have HNX := hideL (HTO.out.skip HKQ.out (fun h => by have := (HNM.out.1 h).1; rw [hc1] at this; cases this))
                        go_wp2_with fail
                        go_quiet (fail)
                        go_wp2_with fail
                        go_roundw
                        case rel => exact ⟨k + 1, x, rfl, by go_num, by omega, HG7.out.trans (Gr.drewN _ _), HNX.out⟩
                        case measure => simp [intOf]; omega
                      · cases hc2 : (q'.nm.toList == t.sv.toList)
                        · have HNX := hideL (HTO.out.skip HKQ.out (fun h => by have := (HNM.out.1 h).2; rw [hc2] at this; cases this))
                          go_wp2_with fail
                          go_quiet (fail)
                          go_wp2_with fail
                          go_roundw
                          case rel => exact ⟨k + 1, x, rfl, by go_num, by omega, HG7.out.trans (Gr.drewN _ _), HNX.out⟩
                          case measure => simp [intOf]; omega
                        · have HNX : Hid (ToI (F.map Rx.toRs) (namF t) (k + 1) k) := ToI.put HKQ.out (HNM.out.2 ⟨hc1, hc2⟩)
                          go_wp2_with fail
                          go_quiet (fail)
                          go_wp2_with fail
                          go_roundw
                          case rel => exact ⟨k + 1, k, rfl, by go_num, by omega, HG7.out.trans (Gr.drewN _ _), HNX.out⟩
                          case measure => simp [intOf]; omega
                    · have HNM : Hid (q'.toRs.key = namF t ↔ (q'.kd == 2) = true ∧ (q'.nm.toList == t.sp.toList) = true) := nam_sp (ba_toList_inj (by rw [List.isEmpty_iff.1 he]; simp [ByteArray.toList_eq]))
                      cases hc1 : (q'.kd == 2)
                      · have HNX := hideL (HTO.out.skip HKQ.out (fun h => by have := (HNM.out.1 h).1; rw [hc1] at this; cases this))
                        go_wp2_with fail
                        go_quiet (fail)
                        go_wp2_with fail
                        go_roundw
                        case rel => exact ⟨k + 1, x, rfl, by go_num, by omega, HG7.out.trans (Gr.drewN _ _), HNX.out⟩
                        case measure => simp [intOf]; omega
                      · cases hc2 : (q'.nm.toList == t.sp.toList)
                        · have HNX := hideL (HTO.out.skip HKQ.out (fun h => by have := (HNM.out.1 h).2; rw [hc2] at this; cases this))
                          go_wp2_with fail
                          go_quiet (fail)
                          go_wp2_with fail
                          go_roundw
                          case rel => exact ⟨k + 1, x, rfl, by go_num, by omega, HG7.out.trans (Gr.drewN _ _), HNX.out⟩
                          case measure => simp [intOf]; omega
                        · have HNX : Hid (ToI (F.map Rx.toRs) (namF t) (k + 1) k) := ToI.put HKQ.out (HNM.out.2 ⟨hc1, hc2⟩)
                          go_wp2_with fail
                          go_quiet (fail)
                          go_wp2_with fail
                          go_roundw
                          case rel => exact ⟨k + 1, k, rfl, by go_num, by omega, HG7.out.trans (Gr.drewN _ _), HNX.out⟩
                          case measure => simp [intOf]; omega
                  · have h4' : ¬ (k : Int) < F.length := by omega
                    have hxj : x = (jt : Int) := HTO.out.done HKS.out (by rw [List.length_map]; omega) HJT.out HQK.out
                    subst hxj
                    obtain ⟨o3, ho3, ho3q⟩ : ∃ o3, F[jt]? = some o3 ∧ o3.toRs = q := by
                      have := HJT.out
                      simp only [List.getElem?_map, Option.map_eq_some_iff] at this
                      exact this
                    have hjtl : jt < F.length := (List.getElem?_eq_some_iff.1 ho3).1
                    have hjtl' : (jt : Int) < F.length := by omega
                    have jt0 : (0 : Int) ≤ jt := by omega
                    have jt1 : ¬ (jt : Int) < 0 := by omega
                    obtain ⟨g', off', e', y0, -, -, y3, -⟩ := (HF.out.row.below HB7.out).cells ho3
                    cases e'
                    have HO3 := hideL ho3
                    have HO3Q := hideL ho3q
                    clear ho3 ho3q b0 b1
                    cases hc1 : (o3.kd == 1)
                    · cases hc2 : ((o3.tgs.length : Int) == 0)
                      · have HQ3 : Hid (∃ (o : Rx) (d : Nat), F[jt]? = some o ∧ o.kd = 2 ∧ 0 < o.tgs.length ∧ Dep (F.map Rx.toRs) o.toRs.key d ∧ st + 1 + d ≤ 8) := by
                          have hk3 : o3.kd = 2 := by
                            have h1 : o3.toRs.key = namF t := by rw [HO3Q.out]; exact HQK.out
                            have h2 : o3.kd = (namF t).1 := congrArg Prod.fst h1
                            have h3 : (namF t).1 = 2 ∨ (namF t).1 = 1 := by unfold namF; split; exact .inl rfl; exact .inr rfl
                            rcases h3 with h3 | h3
                            · rw [h2, h3]
                            · rw [h2, h3] at hc1; cases hc1
                          obtain ⟨e, he, hlt⟩ := (HQE.out (by rw [← HO3Q.out]; exact hk3)).lt HDP.out
                          rw [← HO3Q.out] at he
                          refine ⟨o3, e, HO3.out, hk3, ?_, he, by have := HSD.out; omega⟩
                          have : ¬ (o3.tgs.length : Int) = 0 := by simpa using hc2
                          omega
                        have hst8 : st + 1 ≤ 8 := by obtain ⟨_, d, _, _, _, _, h⟩ := HQ3.out; omega
                        go_wp2_with fail
                        go_roundw
                        case rel => exact ⟨p2, jt, st + 1, rfl, rfl, by go_num, hp2, hst8, ((HGS.out.trans HGC2.out).trans HG6.out).trans HG7.out, HQ3.out⟩
                        case measure => simp [intOf]; omega
                      · go_wp2_with fail
                        go_roundw
                        case rel => exact ⟨p2, i + 1, rfl, by go_num, by omega, hp2, HG.out.trans (((HGS.out.trans HGC2.out).trans HG6.out).trans HG7.out)⟩
                        case measure => simp [intOf]; omega
                    · go_wp2_with fail
                      go_roundw
                      case rel => exact ⟨p2, i + 1, rfl, by go_num, by omega, hp2, HG.out.trans (((HGS.out.trans HGC2.out).trans HG6.out).trans HG7.out)⟩
                      case measure => simp [intOf]; omega
        · have hk2' : (o.kd != 2) = true := by simpa using hk2
          clear hk2
          go_wp2_with fail
          go_roundw
          case rel => exact ⟨p, i + 1, rfl, by go_num, by omega, hp, HG.out⟩
          case measure => simp [intOf]; omega
      · have h3' : ¬ (i : Int) < F.length := by omega
        go_wp2
        go_ret
        exact ⟨rfl, HBO.out⟩
end Go.Proofs.Ytmljljpldljpjaa
