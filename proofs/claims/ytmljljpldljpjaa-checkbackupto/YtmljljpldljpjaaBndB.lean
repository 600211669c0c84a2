import Derived.Test.YtmljljpldljpjaaMx
import Derived.Test.YtmljljpldljpjaaSb
import Derived.Test.YtmljljpldljpjaaLi
/-
  What makes one configuration another, merged into the one: plain.
-/
namespace Go.Proofs.Ytmljljpldljpjaa
open Go.RowKit
set_option linter.unusedVariables false
set_option linter.unusedSimpArgs false
theorem feq_symm {x y : Nat} (h : feq x y = true) : feq y x = true := by
  unfold feq at h ⊢
  have key : ∀ a b : Ieee.Datum, a.order b = some .eq → b.order a = some .eq := by
    intro a b h
    cases a <;> cases b <;> simp [Ieee.Datum.order] at h ⊢
    · rw [Int.min_comm]; exact h.symm
    · split at h <;> cases h
    · split at h <;> cases h
    · exact h.symm
  have h' : FloatKind.f64.format.order x y = some .eq := by simpa using h
  have := key _ _ (show (FloatKind.f64.format.read x).order (FloatKind.f64.format.read y) = some .eq from h')
  simpa using (show FloatKind.f64.format.order y x = some .eq from this)
theorem swt_symm {x y : Nat} (h : swt x y = true) : swt y x = true := by
  unfold swt at h ⊢
  rw [Bool.or_eq_true] at h ⊢
  rcases h with h | h
  · exact .inl (feq_symm h)
  · exact .inr (by rw [Bool.and_comm]; exact h)
theorem SameC.symm {a b : Rs} (h : SameC a b) : SameC b a :=
  ⟨h.key.symm, h.host.symm, h.route.symm, h.del.symm, h.eps.symm, ⟨h.tgs.1.symm, fun j o p h1 h2 => by have := h.tgs.2 j p o h2 h1; exact ⟨this.sv.symm, this.sp.symm, swt_symm this.wt⟩⟩, h.rus.symm⟩
end Go.Proofs.Ytmljljpldljpjaa

/-
  What makes one configuration another, merged into the one, makes the other: plain.
-/
namespace Go.Proofs.Ytmljljpldljpjaa
open Go.RowKit
set_option linter.unusedVariables false
set_option linter.unusedSimpArgs false
theorem kx_ext : ∀ {l m : List (Int × ByteArray)}, l.Pairwise klt → m.Pairwise klt → (∀ r, r ∈ l ↔ r ∈ m) → l = m
  | [], [], _, _, _ => rfl
  | [], b :: m, _, _, h => by have := (h b).2 (by simp); simp at this
  | a :: l, [], _, _, h => by have := (h a).1 (by simp); simp at this
  | a :: l, b :: m, hl, hm, h => by
    obtain ⟨hl1, hl2⟩ := List.pairwise_cons.1 hl
    obtain ⟨hm1, hm2⟩ := List.pairwise_cons.1 hm
    have hab : a = b := by
      rcases List.mem_cons.1 ((h a).1 (by simp)) with e | e
      · exact e
      · rcases List.mem_cons.1 ((h b).2 (by simp)) with e' | e'
        · exact e'.symm
        · exact absurd (hm1 a e) (klt_asymm (hl1 b e'))
    subst hab
    congr 1
    refine kx_ext hl2 hm2 (fun r => ⟨fun hr => ?_, fun hr => ?_⟩)
    · rcases List.mem_cons.1 ((h r).1 (by simp [hr])) with e | e
      · subst e; exact absurd (hl1 r hr) (klt_irrefl _)
      · exact e
    · rcases List.mem_cons.1 ((h r).2 (by simp [hr])) with e | e
      · subst e; exact absurd (hm1 r hr) (klt_irrefl _)
      · exact e
theorem KS.keys {l : List Rs} (h : KS l) : (l.map Rs.key).Pairwise klt := List.pairwise_map.2 h
theorem ks_first {l : List Rs} (h : KS l) {j : Nat} {r : Rs} (hj : l[j]? = some r) : firstsF l r.key = some j := by
  refine firstsF_at (fun i x hi hx e => ?_) hj rfl
  have hi' := (List.getElem?_eq_some_iff.1 hx)
  have hj' := (List.getElem?_eq_some_iff.1 hj)
  obtain ⟨h1, e1⟩ := hi'
  obtain ⟨h2, e2⟩ := hj'
  have := (List.pairwise_iff_getElem.1 h) i j h1 h2 hi
  rw [e1, e2, e] at this
  exact klt_irrefl _ this
theorem firstsF_some_mem {l : List Rs} {r : Rs} (h : r ∈ l) : ∃ j, firstsF l r.key = some j := by
  rcases hf : firstsF l r.key with _ | j
  · exact absurd rfl (firstsF_none_iff.1 hf r h)
  · exact ⟨j, rfl⟩
def diffL (sb : Rs → Rs → Bool) (F T : List Rs) : List Rs := foldP (delsL F T F.length ++ newsL sb F T T.length)
theorem diffL_KS (sb : Rs → Rs → Bool) (F T : List Rs) : KS (diffL sb F T) := (foldP_spec (diff_nodup sb F T _ _)).1
theorem diffL_mem {sb : Rs → Rs → Bool} {F T : List Rs} (hF : KS F) (hT : KS T) {x : Rs} :
    x ∈ diffL sb F T ↔ (∃ r ∈ F, (∀ t ∈ T, t.key ≠ r.key) ∧ x = delR r) ∨ (x ∈ T ∧ ∀ q ∈ F, q.key = x.key → sb q x = false) := by
  unfold diffL
  rw [(foldP_spec (diff_nodup sb F T _ _)).2, List.mem_append]
  constructor
  · rintro (h | h)
    · obtain ⟨j, r, _, hr, _, hn, rfl⟩ := delsL_spec h
      exact .inl ⟨r, List.mem_of_getElem? hr, firstsF_none_iff.1 hn, rfl⟩
    · refine .inr ?_
      unfold newsL at h
      obtain ⟨j, hj, hx⟩ := List.mem_filterMap.1 h
      rcases hTj : T[j]? with _ | r
      · rw [hTj] at hx; cases hx
      · rw [hTj] at hx
        dsimp only at hx
        by_cases hg : newB sb F T j r = true
        · rw [if_pos hg] at hx
          cases hx
          refine ⟨List.mem_of_getElem? hTj, fun q hq e => ?_⟩
          unfold newB at hg
          rw [Bool.and_eq_true] at hg
          have h2 := hg.2
          obtain ⟨i, hi⟩ := List.getElem?_of_mem hq
          have hfi := ks_first hF hi
          rw [e] at hfi
          rw [hfi] at h2
          dsimp only at h2
          rw [hi] at h2
          simpa using h2
        · rw [if_neg hg] at hx; cases hx
  · rintro (⟨r, hr, hn, rfl⟩ | ⟨hx, hq⟩)
    · refine .inl ?_
      obtain ⟨i, hi⟩ := List.getElem?_of_mem hr
      unfold delsL
      refine List.mem_filterMap.2 ⟨i, by simpa using (List.getElem?_eq_some_iff.1 hi).1, ?_⟩
      rw [hi]
      dsimp only
      rw [if_pos]
      unfold goneB
      rw [ks_first hF hi, firstsF_none_iff.2 hn]; simp
    · refine .inr ?_
      obtain ⟨i, hi⟩ := List.getElem?_of_mem hx
      unfold newsL
      refine List.mem_filterMap.2 ⟨i, by simpa using (List.getElem?_eq_some_iff.1 hi).1, ?_⟩
      rw [hi]
      dsimp only
      rw [if_pos]
      unfold newB
      rw [ks_first hT hi]
      rcases hf : firstsF F x.key with _ | j
      · simp
      · obtain ⟨q, hqj, hqk⟩ := firstsF_get hf
        simp [hqj, hq q (List.mem_of_getElem? hqj) hqk]
/-- no document of it is wrong -/
theorem back_err {sb : Rs → Rs → Bool} {F T : List Rs} (hF : Ordd F) (hT : Ordd T) : ∀ (j : Nat) (x : Rs), (diffL sb F T)[j]? = some x → errF F (diffL sb F T) j x = 0 := by
  intro j x hj
  have hx := (diffL_mem hF.ks hT.ks).1 (List.mem_of_getElem? hj)
  have hk : 1 ≤ x.kd ∧ x.kd ≤ 4 := by
    rcases hx with ⟨r, hr, _, rfl⟩ | ⟨hx, _⟩
    · exact ⟨(hF.kind r hr).1, (hF.kind r hr).2.1⟩
    · exact ⟨(hT.kind x hx).1, (hT.kind x hx).2.1⟩
  unfold errF
  rw [if_neg (by omega), if_neg (by rw [ks_first (diffL_KS sb F T) hj]; simp), if_neg]
  rintro ⟨hd, hn⟩
  rcases hx with ⟨r, hr, _, rfl⟩ | ⟨hx, _⟩
  · exact firstsF_none_iff.1 hn r hr rfl
  · rw [(hT.kind x hx).2.2] at hd; cases hd
structure BackI (sb : Rs → Rs → Bool) (F T M : List Rs) : Prop where
  ks : KS M
  keys : M.map Rs.key = T.map Rs.key
  same : ∀ x ∈ M, ∀ t ∈ T, x.key = t.key → sb x t = true
theorem back_spec {sb : Rs → Rs → Bool} (hr : ∀ a, sb a a = true) {F T : List Rs} (hF : Ordd F) (hT : Ordd T) : BackI sb F T (allM F (diffL sb F T) (diffL sb F T).length) := by
  have hE := back_err (sb := sb) hF hT
  have hA := allI_of hF.ks (Nat.le_refl _) (fun j x _ hx => hE j x hx)
  have hmem : ∀ x, x ∈ allM F (diffL sb F T) (diffL sb F T).length ↔ (x ∈ F ∧ ∀ d ∈ diffL sb F T, d.key ≠ x.key) ∨ (x ∈ diffL sb F T ∧ x.del = false) := fun x => by
    rw [hA.mem, List.take_length]
  have h1 : ∀ x ∈ allM F (diffL sb F T) (diffL sb F T).length, ∃ t ∈ T, t.key = x.key ∧ sb x t = true := by
    intro x hx
    rcases (hmem x).1 hx with ⟨hxF, hd⟩ | ⟨hxD, hdel⟩
    · by_cases hex : ∃ t ∈ T, t.key = x.key
      · obtain ⟨t, ht, hk⟩ := hex
        refine ⟨t, ht, hk, ?_⟩
        cases hs : sb x t
        · exfalso
          refine hd t ((diffL_mem hF.ks hT.ks).2 (.inr ⟨ht, fun q hq e => ?_⟩)) hk
          obtain rfl := hF.ks.one hq hxF (e.trans hk)
          exact hs
        · rfl
      · exfalso
        exact hd (delR x) ((diffL_mem hF.ks hT.ks).2 (.inl ⟨x, hxF, fun t ht e => hex ⟨t, ht, e⟩, rfl⟩)) rfl
    · rcases (diffL_mem hF.ks hT.ks).1 hxD with ⟨r, _, _, rfl⟩ | ⟨hxT, _⟩
      · cases hdel
      · exact ⟨x, hxT, rfl, hr x⟩
  have h2 : ∀ t ∈ T, ∃ x ∈ allM F (diffL sb F T) (diffL sb F T).length, x.key = t.key := by
    intro t ht
    by_cases hD : t ∈ diffL sb F T
    · exact ⟨t, (hmem t).2 (.inr ⟨hD, (hT.kind t ht).2.2⟩), rfl⟩
    · have : ∃ q ∈ F, q.key = t.key := by
        refine Classical.byContradiction fun hn => hD ((diffL_mem hF.ks hT.ks).2 (.inr ⟨ht, fun q hq e => absurd ⟨q, hq, e⟩ hn⟩))
      obtain ⟨q, hq, hk⟩ := this
      refine ⟨q, (hmem q).2 (.inl ⟨hq, fun d hd e => ?_⟩), hk⟩
      rcases (diffL_mem hF.ks hT.ks).1 hd with ⟨r, _, hn, rfl⟩ | ⟨hdT, _⟩
      · exact hn t ht (hk.symm.trans e.symm)
      · have := hT.ks.one hdT ht (e.trans hk)
        rw [this] at hd
        exact hD hd
  refine ⟨hA.ks, kx_ext hA.ks.keys hT.ks.keys fun k => ?_, fun x hx t ht e => ?_⟩
  · constructor
    · intro hk
      obtain ⟨x, hx, rfl⟩ := List.mem_map.1 hk
      obtain ⟨t, ht, e, _⟩ := h1 x hx
      exact List.mem_map.2 ⟨t, ht, e⟩
    · intro hk
      obtain ⟨t, ht, rfl⟩ := List.mem_map.1 hk
      obtain ⟨x, hx, e⟩ := h2 t ht
      exact List.mem_map.2 ⟨x, hx, e⟩
  · obtain ⟨t', ht', e', hs⟩ := h1 x hx
    obtain rfl := hT.ks.one ht' ht (e'.trans e)
    exact hs
theorem back_none {sb : Rs → Rs → Bool} (hr : ∀ a, sb a a = true) {F T : List Rs} (hF : Ordd F) (hT : Ordd T) (h0 : astF F = F.length) (hl : T.length ≤ 64) : mrF F (diffL sb F T) = none := by
  have hE := back_err (sb := sb) hF hT
  unfold mrF
  rw [if_neg (fun h => h h0), wrongF_none hE]
  dsimp only
  rw [if_neg]
  have h1 := (merg_perm hF hE).1.length_eq
  have h2 := congrArg List.length (back_spec hr hF hT).keys
  rw [List.length_map, List.length_map] at h2
  omega
/-- what makes one list one of the same keys and the same resources is nothing -/
theorem diffL_nil {sb : Rs → Rs → Bool} {F T : List Rs} (hF : KS F) (hT : KS T) (hk : ∀ k, k ∈ F.map Rs.key ↔ k ∈ T.map Rs.key) (hs : ∀ q ∈ F, ∀ x ∈ T, q.key = x.key → sb q x = true) : diffL sb F T = [] := by
  rw [List.eq_nil_iff_forall_not_mem]
  intro x hx
  rcases (diffL_mem hF hT).1 hx with ⟨r, hr, hn, _⟩ | ⟨hxT, hq⟩
  · obtain ⟨t, ht, e⟩ := List.mem_map.1 ((hk r.key).1 (List.mem_map_of_mem hr))
    exact hn t ht e
  · obtain ⟨q, hqF, e⟩ := List.mem_map.1 ((hk x.key).2 (List.mem_map_of_mem hxT))
    have h1 := hq q hqF e
    rw [hs q hqF x hxT e] at h1
    cases h1
end Go.Proofs.Ytmljljpldljpjaa

/-
  Lists of resources that are the same, one by one; nothing is the matter between such.
-/
namespace Go.Proofs.Ytmljljpldljpjaa
open Go.RowKit
set_option linter.unusedVariables false
set_option linter.unusedSimpArgs false
set_option maxRecDepth 100000
set_option maxHeartbeats 16000000 in
theorem listsC_any (w : World) (a b : Option Addr) (n c1 c2 : Nat) (l r : List Rx) (hn : l.length = n) (hs : n ≤ 4194304) (h1 : Lr w a l) (h2 : Lr w b r) (hE : r.length = n ∧ ∀ (i : Nat) (o p : Rx), l[i]? = some o → r[i]? = some p → SameC o.toRs p.toRs) :
    Calls Try.prog 13 #[.slice a n c1, .slice b n c2] w fun e w' => e = .returned (.bool true) ∧ Gr w w' := by
  have HN := hideL hn
  have H1 := hideL h1
  have H2 := hideL h2
  have HE := hideL hE
  clear hn h1 h2 hE
  go_enter Try.func13, Try.ntmps13
  go_wp2_with fail
  go_loopw [5] (fun t wr => ∃ (i : Nat), t = .int .i64 i ∧ i ≤ n ∧ Gr w wr) (fun t _ => n - (intOf t).toNat)
  case atStart => exact ⟨0, rfl, by omega, Gr.refl _⟩
  case round =>
    obtain ⟨i, rfl, hi, hgr⟩ := hrel
    have HG := hideL hgr
    clear hgr
    have i0 : (0 : Int) ≤ i := by omega
    by_cases h3 : i < n
    · have h3' : (i : Int) < n := by omega
      rcases hki : l[i]? with _ | o
      · have := List.getElem?_eq_none_iff.1 hki; have := HN.out; omega
      rcases hkj : r[i]? with _ | p
      · have := List.getElem?_eq_none_iff.1 hkj; have := HE.out.1; omega
      have HSA := hideL (HE.out.2 i o p hki hkj)
      have HRO := hideL (H1.out.each o (List.mem_of_getElem? hki))
      have HRP := hideL (H2.out.each p (List.mem_of_getElem? hkj))
      obtain ⟨g, off, rfl, c0, c1, c2, c3, c4, c5, c6, c7⟩ := (H1.out.row.below HG.out.below).cells hki
      obtain ⟨g', off', rfl, d0, d1, d2, d3, d4, d5, d6, d7⟩ := (H2.out.row.below HG.out.below).cells hkj
      have HC : Hid (∀ W, Gr wr W → Calls Try.prog 21 #[.agg #[.int .i64 o.kd, .string o.nm, .slice o.ea o.eps.length o.ec, .slice o.ta o.tgs.length o.tc, .string o.host, .slice o.ra o.rus.length o.rc, .string o.route, .bool o.del], .agg #[.int .i64 p.kd, .string p.nm, .slice p.ea p.eps.length p.ec, .slice p.ta p.tgs.length p.tc, .string p.host, .slice p.ra p.rus.length p.rc, .string p.route, .bool p.del]] W fun e w' => e = .returned (.bool true) ∧ Gr W w') := fun W hW => by
        refine (rsame_any W o p (HRO.out.below (HG.out.trans hW).below) (HRP.out.below (HG.out.trans hW).below)).mono ?_
        rintro e w' ⟨⟨b, rfl, hb⟩, h2⟩
        obtain rfl : b = true := hb.2 HSA.out
        exact ⟨rfl, h2⟩
      have HS := hideL (fun (W' : World) (h : Gr wr W') => show (_ ∧ _ ∧ _ ∧ _ ∧ _ ∧ _ ∧ _ ∧ _ ∧ _ ∧ _ ∧ _ ∧ _ ∧ _ ∧ _ ∧ _ ∧ _) from ⟨h.cell c0, h.cell c1, h.cell c2, h.cell c3, h.cell c4, h.cell c5, h.cell c6, h.cell c7, h.cell d0, h.cell d1, h.cell d2, h.cell d3, h.cell d4, h.cell d5, h.cell d6, h.cell d7⟩)
      clear hki hkj HRO HRP
      go_wp2_with fail
      go_region_held3 (fun w' => w'.cell? ⟨g, off + i * 8, none⟩ = some (.int .i64 o.kd) ∧ w'.cell? ⟨g, off + i * 8 + 1, none⟩ = some (.string o.nm) ∧ w'.cell? ⟨g, off + i * 8 + 2, none⟩ = some (.slice o.ea o.eps.length o.ec) ∧ w'.cell? ⟨g, off + i * 8 + 3, none⟩ = some (.slice o.ta o.tgs.length o.tc) ∧ w'.cell? ⟨g, off + i * 8 + 4, none⟩ = some (.string o.host) ∧ w'.cell? ⟨g, off + i * 8 + 5, none⟩ = some (.slice o.ra o.rus.length o.rc) ∧ w'.cell? ⟨g, off + i * 8 + 6, none⟩ = some (.string o.route) ∧ w'.cell? ⟨g, off + i * 8 + 7, none⟩ = some (.bool o.del)
         ∧ w'.cell? ⟨g', off' + i * 8, none⟩ = some (.int .i64 p.kd) ∧ w'.cell? ⟨g', off' + i * 8 + 1, none⟩ = some (.string p.nm) ∧ w'.cell? ⟨g', off' + i * 8 + 2, none⟩ = some (.slice p.ea p.eps.length p.ec) ∧ w'.cell? ⟨g', off' + i * 8 + 3, none⟩ = some (.slice p.ta p.tgs.length p.tc) ∧ w'.cell? ⟨g', off' + i * 8 + 4, none⟩ = some (.string p.host) ∧ w'.cell? ⟨g', off' + i * 8 + 5, none⟩ = some (.slice p.ra p.rus.length p.rc) ∧ w'.cell? ⟨g', off' + i * 8 + 6, none⟩ = some (.string p.route) ∧ w'.cell? ⟨g', off' + i * 8 + 7, none⟩ = some (.bool p.del)) (go_keep) (first
        | (go_at_call 21; refine (HC.out _ (Gr.drewN wr 1)).mono ?_; rintro e w2 ⟨rfl, hg2⟩; have HG2 := hideL ((Gr.drewN wr 1).trans hg2); obtain ⟨p1, p2, p3, p4, p5, p6, p7, p8, p9, p10, p11, p12, p13, p14, p15, p16⟩ := HS.out w2 HG2.out; clear hg2))
      go_wp2
      go_roundw
      case rel => exact ⟨i + 1, by go_num, by omega, HG.out.trans HG2.out⟩
      case measure => simp [intOf]; omega
    · have h3' : ¬ (i : Int) < n := by omega
      go_wp2
      go_ret
      exact ⟨rfl, HG.out⟩
end Go.Proofs.Ytmljljpldljpjaa
