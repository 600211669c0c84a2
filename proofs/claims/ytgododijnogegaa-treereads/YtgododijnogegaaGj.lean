/-
  A grower takes the items of a sequence: the walk.
-/
import Derived.Test.YtgododijnogegaaGi
import Derived.Test.YtgododijnogegaaPl
namespace Go.Proofs.Ytgododijnogegaa
open Go.RowKit
set_option linter.unusedVariables false
set_option linter.unusedSimpArgs false
set_option maxRecDepth 100000
/-- how many tokens are left -/
def gLen (gp : Nat) (w : World) : Nat := match w.cell? ⟨gp, 1, none⟩ with
  | some (.slice _ m _) => m
  | _ => 0
theorem Gs.left {w : World} {base gp : Nat} {doc : Int} {g off n cap : Nat} {L : List Tk} {q : Nat} {v : Value} {os : List Nx} (h : Gs w base gp doc g off n cap L q v os) : gLen gp w = n - q := by
  obtain ⟨oq, hb, _⟩ := h.blk
  unfold gLen
  rw [cell_block hb]
  rfl
theorem nxB_some {L : List Tk} {q : Nat} {kd col : Int} (h : nxB L q kd col = true) : ∃ u, L[q]? = some u ∧ u.kd = kd ∧ u.col = col := by
  unfold nxB at h
  rcases hu : L[q]? with _ | u
  · rw [hu] at h; cases h
  · rw [hu] at h
    simp only [Bool.and_eq_true, decide_eq_true_eq] at h
    exact ⟨u, rfl, h.1, h.2⟩
theorem nxB_none {L : List Tk} {q : Nat} {kd col : Int} (h : nxB L q kd col = false) : L[q]? = none ∨ ∃ u, L[q]? = some u ∧ ¬ (u.kd = kd ∧ u.col = col) := by
  unfold nxB at h
  rcases hu : L[q]? with _ | u
  · exact .inl rfl
  · rw [hu] at h
    refine .inr ⟨u, rfl, fun hc => ?_⟩
    simp [hc.1, hc.2] at h
theorem size_withKey (t : Tr) (key : ByteArray) : (t.withKey key).size = t.size := by cases t; rfl
theorem heap_alloc_size1 (w : World) (o : Obj) : (w.alloc o).heap.size = w.heap.size + 1 := by simp
set_option maxHeartbeats 8000000 in
theorem items_any (w : World) (base gp : Nat) (doc : Int) (g off n cap : Nat) (L : List Tk) (q : Nat) (v : Value) (os : List Nx) (t0 : Tk) (d : Int) (f : Nat) (hdf : d + 1 + (f : Int) = 17) (d0 : 0 ≤ d) (h : Gs w base gp doc g off n cap L q v os) (h2 : t0.kd = 2) (hC : BlkC base gp doc g off n cap L f (d + 1)) :
    Calls Try.prog 47 #[.pointer (some ⟨gp, 0, none⟩), .int .i64 t0.col, .int .i64 d] w (LiE w base gp doc g off n cap L v os (lpM (valM (blkM L f) (decide (f = 0)) L) L t0 (L.length - q) [] q os.length)) := by
  obtain ⟨R, hR⟩ : ∃ R, lpM (valM (blkM L f) (decide (f = 0)) L) L t0 (L.length - q) [] q os.length = R := ⟨_, rfl⟩
  rw [hR]
  have HR := hideL hR
  have HG := hideL h
  have HC := hideL hC
  have HO : Hid (∀ x ∈ os, ∀ r, x.kv.ownBlock = some r → r < w.heap.size) := fun x hx r hr => ((h.own.kids x hx).1.lt r hr).2
  obtain ⟨i3, hi3, hy0, hy1, hy2⟩ := info_parts Try.info3
  have hlen := h.len
  have dw : IntKind.i64.wrap (d + 1) = d + 1 := by rw [IntKind.wrap_i64]; omega
  clear hR h hC
  go_enter Try.func47, Try.ntmps47
  go_wp2_with (fail)
  go_loopw [7] (fun u7 wr => ∃ (ts : List Tr) (q2 : Nat) (v2 : Value) (ns : List Nx) (k : Nat), Li w wr base gp doc g off n cap L v os ts u7 q2 v2 ns ∧ n - q2 ≤ k ∧ lpM (valM (blkM L f) (decide (f = 0)) L) L t0 k ts q2 (os.length + sizes ts) = R) (fun _ wr => gLen gp wr)
  case atStart => exact ⟨[], q, v, [], L.length - q, Li.start HG.out, by omega, by simpa [sizes] using HR.out⟩
  case round =>
    obtain ⟨ts, q2, v2, ns, k, hli, hk, hRk⟩ := hrel
    have HLI := hideL hli
    have HRK := hideL hRk
    obtain ⟨ka, kc, rfl, _, hKc, hkm⟩ := own_form hli.kids
    obtain ⟨K, hK⟩ : ∃ K, ts.length = K := ⟨_, rfl⟩
    rw [hK] at hKc ⊢
    have HKL := hideL hK
    cases hnx : nxB L q2 2 t0.col with
    | false =>
      have hI := isNext_any wr base gp doc g off n cap L q2 v2 (os ++ ns) 2 t0.col hli.gs
      rw [hnx] at hI
      have HE : Hid (LiE w base gp doc g off n cap L v os R (.returned (.slice ka K kc)) wr) := by
        have he := lpM_end (V := valM (blkM L f) (decide (f = 0)) L) (L := L) (t0 := t0) (k := k) (q := q2) (made := os.length + sizes ts) (acc := ts) (by rw [h2]; exact nxB_none hnx)
        rw [HRK.out] at he
        subst he
        exact ⟨rfl, .slice ka K kc, v2, ns, rfl, by rw [← HKL.out]; exact HLI.out⟩
      clear hli hRk hK hnx
      go_wp2_with (go_at_call 52; refine hI.mono ?_; rintro e w1 ⟨rfl, rfl⟩)
      go_ret
      exact HE.out
    | true =>
      obtain ⟨u, hu, hu2, huc⟩ := nxB_some hnx
      have hI := isNext_any wr base gp doc g off n cap L q2 v2 (os ++ ns) 2 t0.col hli.gs
      rw [hnx] at hI
      have hq2 : q2 < n := by have := (List.getElem?_eq_some_iff.1 hu).1; omega
      have hT := take_any wr base gp doc g off n cap L q2 v2 (os ++ ns) u hli.gs hq2 hu
      have HU := hideL (And.intro hu (And.intro hu2 huc))
      obtain ⟨va, vc, hv, _, hMc, hvm⟩ := own_form hli.gs.own.row
      subst hv
      obtain ⟨M, hM⟩ : ∃ M, (os ++ ns).length = M := ⟨_, rfl⟩
      have HM := hideL hM
      have HML : Hid (M = os.length + sizes ts) := by show _ = _; rw [← hM]; exact hli.lens
      have hM4 : M ≤ 4096 := by rw [← hM]; exact hli.gs.few
      have hKM : K ≤ M := by have := len_sizes ts; have := HML.out; omega
      rw [hM] at hT hMc
      have HUS : Hid (u.kd = 2 ∨ u.kd = 3) := .inl hu2
      have HWS : Hid (∀ r, (Value.slice ka K kc).ownBlock = some r → r < wr.heap.size) := fun r hr => by
        have h1 := hli.kids
        rw [hK] at h1
        exact (h1.lt r hr).2
      obtain ⟨kd, line, col, tx, quo⟩ := u
      unfold tokV at hT
      dsimp only at *
      have hKm : K + 1 ≤ maxLen := by unfold maxLen; omega
      have hKb : (K + 1) * 8 ≤ 140737488355328 := by omega
      have HTXS : Hid (ByteArray.empty.size ≤ 281474976710656) := by show _ ≤ _; decide
      clear hli hRk hK hnx hu hu2 huc hM
      go_wp2_with (first
        | (go_at_call 52; refine hI.mono ?_; rintro e w1 ⟨rfl, rfl⟩)
        | (go_at_call 45; refine hT.mono ?_; rintro e w2 ⟨rfl, hg2, hb2⟩; have HLI2 : Hid (Li w (w2.alloc (.cells #[.int .i64 kd, .int .i64 line, .int .i64 col, .string tx, .bool quo] 39)) base gp doc g off n cap L v os ts (.slice ka K kc) (q2 + 1) (.slice va M vc) ns) := (by have h1 := HLI.out; rw [HKL.out, HM.out] at h1; exact h1.turn (hg2.below ((Below.refl _ w2).alloc (Nat.le_refl _) _)) (hb2.trans (But.of_below ((Below.refl _ w2).alloc (Nat.le_refl _) _)))); have HB2 := hideL hb2; have c2 : w2.cell? ⟨gp, 2, none⟩ = some (.slice va M vc) := (by obtain ⟨oq, h1, _⟩ := hg2.blk; rw [cell_block h1]; rfl); have c2a := cell_al c2; have HKA : Hid (((w2.alloc (.cells #[.int .i64 kd, .int .i64 line, .int .i64 col, .string tx, .bool quo] 39)).alloc (Obj.cells #[.int .i64 M] 3)).ownsRow base 3 1 (.slice ka K kc) K (iV (starts ts os.length))) := (by have h1 := HLI2.out.kids; rw [HKL.out] at h1; exact h1.alloc _); have hwb : base ≤ ((w2.alloc (.cells #[.int .i64 kd, .int .i64 line, .int .i64 col, .string tx, .bool quo] 39)).alloc (Obj.cells #[.int .i64 M] 3)).heap.size := (by have := HLI2.out.gs.bw; simp at this ⊢; omega); clear hg2 hb2 c2)
        | (at_builtin; refine wpList_append_at _ rfl (.tmp 14) (.tmp 20) 49 rfl base 3 i3 (.int .i64 0) 1 8 Try.underlying49 hi3 hy0 hy1 hy2 rfl (by decide) _ K (iV (starts ts os.length)) rfl HKA.out ⟨w2.heap.size + 1, 0, none⟩ 1 1 [.int .i64 M] rfl rfl (by have h1 := World.news_of_block (Go.heap_alloc_new (w2.alloc (.cells #[.int .i64 kd, .int .i64 line, .int .i64 col, .string tx, .bool quo] 39)) (Obj.cells #[.int .i64 M] 3)); rw [heap_alloc_size1] at h1; exact h1) (by intro u hu; simp at hu; subst hu; rfl) hKm hKb hwb ?_; intro kv3 w3 hown3 hgrow3 hat3; have HN3 := hideL (HLI2.out.numbered HO.out hgrow3); have HW3 := hideL hown3; have HG3 := hideL hgrow3; have HA3 := hideL hat3; obtain ⟨k3, c3, rfl, _⟩ := own_form hown3; have hb3 : w3.heap[w2.heap.size]? = some (.cells #[.int .i64 kd, .int .i64 line, .int .i64 col, .string tx, .bool quo] 39 (0, 0)) := (by rw [hgrow3.block w2.heap.size (by simp; omega) (fun e => by have := HWS.out _ e.symm; have := HB2.out.size; omega), Below.heap_alloc _ _ _ (by simp)]; exact Go.heap_alloc_new _ _); obtain ⟨⟨s0, s1, s2, s3, s4⟩, -⟩ := cells5 hb3; clear hown3 hgrow3 hat3 hb3))
      have hv := gvalue_any w3 base gp doc g off n cap L (q2 + 1) (.slice va M vc) (os ++ ns) ⟨kd, line, col, tx, quo⟩ ByteArray.empty (d + 1) f hdf HN3.out.1 HUS.out HTXS.out HC.out
      rw [HM.out] at hv
      obtain ⟨rv, hrv⟩ : ∃ rv, valM (blkM L f) (decide (f = 0)) L ⟨kd, line, col, tx, quo⟩ (q2 + 1) M = rv := ⟨_, rfl⟩
      rw [hrv] at hv
      have HRV := hideL hrv
      unfold tokV at hv
      dsimp only at hv
      clear hrv
      refine hv.mono ?_
      clear hv
      intro e w4 hE
      obtain ⟨k1, hk1⟩ : ∃ k1, k = k1 + 1 := ⟨k - 1, by omega⟩
      have hun : ¬ ((⟨kd, line, col, tx, quo⟩ : Tk).kd = 3 ∧ ∃ x ∈ ts, x.key = (⟨kd, line, col, tx, quo⟩ : Tk).tx) := by
        have := HU.out.2.1
        rintro ⟨h3, _⟩
        dsimp only at this h3
        omega
      cases rv with
      | ok tv q3 made3 =>
        obtain ⟨rfl, hmade, v4, ns2, hO4⟩ := hE
        rw [HM.out] at hmade hO4
        have HLI4 : Hid (Li w w4 base gp doc g off n cap L v os (ts ++ [tv.withKey ByteArray.empty]) (.slice k3 (K + 1) c3) q3 v4 (ns ++ ns2)) := by
          have h3 := HW3.out
          refine HLI2.out.more HO.out ?_ HG3.out HA3.out ?_
          · rw [HKL.out, ← HML.out]; exact h3
          · rw [← HML.out]; exact hO4
        have hqq : q2 + 1 ≤ q3 := valM_le (fun t q2 m2 h => blkM_le f _ _ t q2 m2 h) HRV.out
        have HR4 : Hid (lpM (valM (blkM L f) (decide (f = 0)) L) L t0 k1 (ts ++ [tv.withKey ByteArray.empty]) q3 (os.length + sizes (ts ++ [tv.withKey ByteArray.empty])) = R) := by
          have h1 := HRK.out
          have h4 := HRV.out
          rw [HML.out] at h4
          rw [hk1, lpM_step HU.out.1 (HU.out.2.1.trans h2.symm) HU.out.2.2 hun h4] at h1
          have e1 : (if (⟨kd, line, col, tx, quo⟩ : Tk).kd = 3 then (⟨kd, line, col, tx, quo⟩ : Tk).tx else ByteArray.empty) = ByteArray.empty := if_neg (by have := HU.out.2.1; dsimp only at this ⊢; omega)
          rw [e1] at h1
          have e2 : os.length + sizes (ts ++ [tv.withKey ByteArray.empty]) = made3 := by
            rw [sizes_snoc, size_withKey, hmade, HML.out]; omega
          show _ = _
          rw [e2]
          exact h1
        have HMS : Hid (gLen gp w4 < gLen gp w1) := by
          have a1 := HLI4.out.gs.left
          have a2 := HLI.out.gs.left
          show _ < _
          rw [a1, a2]; omega
        clear hO4 hmade hun
        go_wp2_with (fail)
        go_roundw
        case rel => exact ⟨ts ++ [tv.withKey ByteArray.empty], q3, v4, ns ++ ns2, k1, HLI4.out, by omega, HR4.out⟩
        case measure => exact HMS.out
      | bad l er q3 made3 =>
        obtain ⟨he, htg⟩ := hE
        have HE : Hid (LiE w base gp doc g off n cap L v os R (wrongE doc l er) w4) := by
          have h1 := HRK.out
          have h4 := HRV.out
          rw [HML.out] at h4
          rw [hk1, lpM_bad HU.out.1 (HU.out.2.1.trans h2.symm) HU.out.2.2 hun h4] at h1
          show LiE _ _ _ _ _ _ _ _ _ _ _ _ _ _
          rw [← h1]
          exact ⟨rfl, HN3.out.2.1.trans htg HLI2.out.row⟩
        clear htg hun
        unfold wrongE at he HE
        subst he
        exact ⟨rfl, HE.out⟩
end Go.Proofs.Ytgododijnogegaa
