import Derived.Test.YtmmnpnhffgpchaaGreatDoorBn29
import Derived.Test.YtmmnpnhffgpchaaGreatDoorBn22
/-
  A grower takes the items of a sequence: the walk.
-/
namespace Go.Proofs.YtmmnpnhffgpchaaGreatDoor
open Go.RowKit
set_option linter.unusedVariables false
set_option linter.unusedSimpArgs false
set_option maxRecDepth 100000
/-- how many tokens are left -/
def gLen (gp : Nat) (w : World) : Nat := match w.cell? ⟨gp, 1, none⟩ with
  | some (.slice _ m _) => m
  | _ => 0
theorem Gs.left {w : World} {base gp : Nat} {doc : Int} {g off n cap : Nat} {L : List Tk} {q : Nat} {v : Value} {os : List Nx} (h : Gs w base gp doc g off n cap L q v os) : gLen gp w = n - q := by
  obtain ⟨oq, hb, _⟩ := h.blk
  unfold gLen
  rw [cell_block hb]
  rfl
theorem nxB_some {L : List Tk} {q : Nat} {kd col : Int} (h : nxB L q kd col = true) : ∃ u, L[q]? = some u ∧ u.kd = kd ∧ u.col = col := by
  unfold nxB at h
  rcases hu : L[q]? with _ | u
  · rw [hu] at h; cases h
  · rw [hu] at h
    simp only [Bool.and_eq_true, decide_eq_true_eq] at h
    exact ⟨u, rfl, h.1, h.2⟩
theorem nxB_none {L : List Tk} {q : Nat} {kd col : Int} (h : nxB L q kd col = false) : L[q]? = none ∨ ∃ u, L[q]? = some u ∧ ¬ (u.kd = kd ∧ u.col = col) := by
  unfold nxB at h
  rcases hu : L[q]? with _ | u
  · exact .inl rfl
  · rw [hu] at h
    refine .inr ⟨u, rfl, fun hc => ?_⟩
    simp [hc.1, hc.2] at h
theorem size_withKey (t : Tr) (key : ByteArray) : (t.withKey key).size = t.size := by cases t; rfl
theorem heap_alloc_size1 (w : World) (o : Obj) : (w.alloc o).heap.size = w.heap.size + 1 := by simp
set_option maxHeartbeats 8000000 in
theorem items_any (w : World) (base gp : Nat) (doc : Int) (g off n cap : Nat) (L : List Tk) (q : Nat) (v : Value) (os : List Nx) (t0 : Tk) (d : Int) (f : Nat) (hdf : d + 1 + (f : Int) = 17) (d0 : 0 ≤ d) (h : Gs w base gp doc g off n cap L q v os) (h2 : t0.kd = 2) (hC : BlkC base gp doc g off n cap L f (d + 1)) :
    Calls Tryz.prog 56 #[.pointer (some ⟨gp, 0, none⟩), .int .i64 t0.col, .int .i64 d] w (LiE w base gp doc g off n cap L v os (lpM (valM (blkM L f) (decide (f = 0)) L) L t0 (L.length - q) [] q os.length)) := by
  obtain ⟨R, hR⟩ : ∃ R, lpM (valM (blkM L f) (decide (f = 0)) L) L t0 (L.length - q) [] q os.length = R := ⟨_, rfl⟩
  rw [hR]
  have HR := hideL hR
  have HG := hideL h
  have HC := hideL hC
  have HO : Hid (∀ x ∈ os, ∀ r, x.kv.ownBlock = some r → r < w.heap.size) := fun x hx r hr => ((h.own.kids x hx).1.lt r hr).2
  obtain ⟨i3, hi3, hy0, hy1, hy2⟩ := info_parts Tryz.info3
  have hlen := h.len
  have dw : IntKind.i64.wrap (d + 1) = d + 1 := by rw [IntKind.wrap_i64]; omega
  clear hR h hC
  go_enter Tryz.func56, Tryz.ntmps56
  go_wp2_with (fail)
  go_loopw [7] (fun u7 wr => ∃ (ts : List Tr) (q2 : Nat) (v2 : Value) (ns : List Nx) (k : Nat), Li w wr base gp doc g off n cap L v os ts u7 q2 v2 ns ∧ n - q2 ≤ k ∧ lpM (valM (blkM L f) (decide (f = 0)) L) L t0 k ts q2 (os.length + sizes ts) = R) (fun _ wr => gLen gp wr)
  case atStart => exact ⟨[], q, v, [], L.length - q, Li.start HG.out, by omega, by simpa [sizes] using HR.out⟩
  case round =>
    obtain ⟨ts, q2, v2, ns, k, hli, hk, hRk⟩ := hrel
    have HLI := hideL hli
    have HRK := hideL hRk
    obtain ⟨ka, kc, rfl, _, hKc, hkm⟩ := own_form hli.kids
    obtain ⟨K, hK⟩ : ∃ K, ts.length = K := ⟨_, rfl⟩
    rw [hK] at hKc ⊢
    have HKL := hideL hK
    cases hnx : nxB L q2 2 t0.col with
    | false =>
      have hI := isNext_any wr base gp doc g off n cap L q2 v2 (os ++ ns) 2 t0.col hli.gs
      rw [hnx] at hI
      have HE : Hid (LiE w base gp doc g off n cap L v os R (.returned (.slice ka K kc)) wr) := by
        have he := lpM_end (V := valM (blkM L f) (decide (f = 0)) L) (L := L) (t0 := t0) (k := k) (q := q2) (made := os.length + sizes ts) (acc := ts) (by rw [h2]; exact nxB_none hnx)
        rw [HRK.out] at he
        subst he
        exact ⟨rfl, .slice ka K kc, v2, ns, rfl, by rw [← HKL.out]; exact HLI.out⟩
      clear hli hRk hK hnx
      go_wp2_with (go_at_call 74; refine hI.mono ?_; rintro e w1 ⟨rfl, rfl⟩)
      go_ret
      exact HE.out
    | true =>
      obtain ⟨u, hu, hu2, huc⟩ := nxB_some hnx
      have hI := isNext_any wr base gp doc g off n cap L q2 v2 (os ++ ns) 2 t0.col hli.gs
      rw [hnx] at hI
      have hq2 : q2 < n := by have := (List.getElem?_eq_some_iff.1 hu).1; omega
      have hT := take_any wr base gp doc g off n cap L q2 v2 (os ++ ns) u hli.gs hq2 hu
      have HU := hideL (And.intro hu (And.intro hu2 huc))
      obtain ⟨va, vc, hv, _, hMc, hvm⟩ := own_form hli.gs.own.row
      subst hv
      obtain ⟨M, hM⟩ : ∃ M, (os ++ ns).length = M := ⟨_, rfl⟩
      have HM := hideL hM
      have HML : Hid (M = os.length + sizes ts) := by show _ = _; rw [← hM]; exact hli.lens
      have hM4 : M ≤ 4096 := by rw [← hM]; exact hli.gs.few
      have hKM : K ≤ M := by have := len_sizes ts; have := HML.out; omega
      rw [hM] at hT hMc
      have HUS : Hid (u.kd = 2 ∨ u.kd = 3) := .inl hu2
      have HWS : Hid (∀ r, (Value.slice ka K kc).ownBlock = some r → r < wr.heap.size) := fun r hr => by
        have h1 := hli.kids
        rw [hK] at h1
        exact (h1.lt r hr).2
      obtain ⟨kd, line, col, tx, quo⟩ := u
      unfold tokV at hT
      dsimp only at *
      have hKm : K + 1 ≤ maxLen := by unfold maxLen; omega
      have hKb : (K + 1) * 8 ≤ 140737488355328 := by omega
      have HTXS : Hid (ByteArray.empty.size ≤ 281474976710656) := by show _ ≤ _; decide
      clear hli hRk hK hnx hu hu2 huc hM
      go_wp2_with (first
        | (go_at_call 74; refine hI.mono ?_; rintro e w1 ⟨rfl, rfl⟩)
        | (go_at_call 54; refine hT.mono ?_; rintro e w2 ⟨rfl, hg2, hb2⟩; have HLI2 : Hid (Li w (w2.alloc (.cells #[.int .i64 kd, .int .i64 line, .int .i64 col, .string tx, .bool quo] 52)) base gp doc g off n cap L v os ts (.slice ka K kc) (q2 + 1) (.slice va M vc) ns) := (by have h1 := HLI.out; rw [HKL.out, HM.out] at h1; exact h1.turn (hg2.below ((Below.refl _ w2).alloc (Nat.le_refl _) _)) (hb2.trans (But.of_below ((Below.refl _ w2).alloc (Nat.le_refl _) _)))); have HB2 := hideL hb2; have c2 : w2.cell? ⟨gp, 2, none⟩ = some (.slice va M vc) := (by obtain ⟨oq, h1, _⟩ := hg2.blk; rw [cell_block h1]; rfl); have c2a := cell_al c2; have HKA : Hid (((w2.alloc (.cells #[.int .i64 kd, .int .i64 line, .int .i64 col, .string tx, .bool quo] 52)).alloc (Obj.cells #[.int .i64 M] 3)).ownsRow base 3 1 (.slice ka K kc) K (iV (starts ts os.length))) := (by have h1 := HLI2.out.kids; rw [HKL.out] at h1; exact h1.alloc _); have hwb : base ≤ ((w2.alloc (.cells #[.int .i64 kd, .int .i64 line, .int .i64 col, .string tx, .bool quo] 52)).alloc (Obj.cells #[.int .i64 M] 3)).heap.size := (by have := HLI2.out.gs.bw; simp at this ⊢; omega); clear hg2 hb2 c2)
        | (at_builtin; refine wpList_append_at _ rfl (.tmp 14) (.tmp 20) 66 rfl base 3 i3 (.int .i64 0) 1 8 Tryz.underlying66 hi3 hy0 hy1 hy2 rfl (by decide) _ K (iV (starts ts os.length)) rfl HKA.out ⟨w2.heap.size + 1, 0, none⟩ 1 1 [.int .i64 M] rfl rfl (by have h1 := World.news_of_block (Go.heap_alloc_new (w2.alloc (.cells #[.int .i64 kd, .int .i64 line, .int .i64 col, .string tx, .bool quo] 52)) (Obj.cells #[.int .i64 M] 3)); rw [heap_alloc_size1] at h1; exact h1) (by intro u hu; simp at hu; subst hu; rfl) hKm hKb hwb ?_; intro kv3 w3 hown3 hgrow3 hat3; have HN3 := hideL (HLI2.out.numbered HO.out hgrow3); have HW3 := hideL hown3; have HG3 := hideL hgrow3; have HA3 := hideL hat3; obtain ⟨k3, c3, rfl, _⟩ := own_form hown3; have hb3 : w3.heap[w2.heap.size]? = some (.cells #[.int .i64 kd, .int .i64 line, .int .i64 col, .string tx, .bool quo] 52 (0, 0)) := (by rw [hgrow3.block w2.heap.size (by simp; omega) (fun e => by have := HWS.out _ e.symm; have := HB2.out.size; omega), Below.heap_alloc _ _ _ (by simp)]; exact Go.heap_alloc_new _ _); obtain ⟨⟨s0, s1, s2, s3, s4⟩, -⟩ := cells5 hb3; clear hown3 hgrow3 hat3 hb3))
      have hv := gvalue_any w3 base gp doc g off n cap L (q2 + 1) (.slice va M vc) (os ++ ns) ⟨kd, line, col, tx, quo⟩ ByteArray.empty (d + 1) f hdf HN3.out.1 HUS.out HTXS.out HC.out
      rw [HM.out] at hv
      obtain ⟨rv, hrv⟩ : ∃ rv, valM (blkM L f) (decide (f = 0)) L ⟨kd, line, col, tx, quo⟩ (q2 + 1) M = rv := ⟨_, rfl⟩
      rw [hrv] at hv
      have HRV := hideL hrv
      unfold tokV at hv
      dsimp only at hv
      clear hrv
      refine hv.mono ?_
      clear hv
      intro e w4 hE
      obtain ⟨k1, hk1⟩ : ∃ k1, k = k1 + 1 := ⟨k - 1, by omega⟩
      have hun : ¬ ((⟨kd, line, col, tx, quo⟩ : Tk).kd = 3 ∧ ∃ x ∈ ts, x.key = (⟨kd, line, col, tx, quo⟩ : Tk).tx) := by
        have := HU.out.2.1
        rintro ⟨h3, _⟩
        dsimp only at this h3
        omega
      cases rv with
      | ok tv q3 made3 =>
        obtain ⟨rfl, hmade, v4, ns2, hO4⟩ := hE
        rw [HM.out] at hmade hO4
        have HLI4 : Hid (Li w w4 base gp doc g off n cap L v os (ts ++ [tv.withKey ByteArray.empty]) (.slice k3 (K + 1) c3) q3 v4 (ns ++ ns2)) := by
          have h3 := HW3.out
          refine HLI2.out.more HO.out ?_ HG3.out HA3.out ?_
          · rw [HKL.out, ← HML.out]; exact h3
          · rw [← HML.out]; exact hO4
        have hqq : q2 + 1 ≤ q3 := valM_le (fun t q2 m2 h => blkM_le f _ _ t q2 m2 h) HRV.out
        have HR4 : Hid (lpM (valM (blkM L f) (decide (f = 0)) L) L t0 k1 (ts ++ [tv.withKey ByteArray.empty]) q3 (os.length + sizes (ts ++ [tv.withKey ByteArray.empty])) = R) := by
          have h1 := HRK.out
          have h4 := HRV.out
          rw [HML.out] at h4
          rw [hk1, lpM_step HU.out.1 (HU.out.2.1.trans h2.symm) HU.out.2.2 hun h4] at h1
          have e1 : (if (⟨kd, line, col, tx, quo⟩ : Tk).kd = 3 then (⟨kd, line, col, tx, quo⟩ : Tk).tx else ByteArray.empty) = ByteArray.empty := if_neg (by have := HU.out.2.1; dsimp only at this ⊢; omega)
          rw [e1] at h1
          have e2 : os.length + sizes (ts ++ [tv.withKey ByteArray.empty]) = made3 := by
            rw [sizes_snoc, size_withKey, hmade, HML.out]; omega
          show _ = _
          rw [e2]
          exact h1
        have HMS : Hid (gLen gp w4 < gLen gp w1) := by
          have a1 := HLI4.out.gs.left
          have a2 := HLI.out.gs.left
          show _ < _
          rw [a1, a2]; omega
        clear hO4 hmade hun
        go_wp2_with (fail)
        go_roundw
        case rel => exact ⟨ts ++ [tv.withKey ByteArray.empty], q3, v4, ns ++ ns2, k1, HLI4.out, by omega, HR4.out⟩
        case measure => exact HMS.out
      | bad l er q3 made3 =>
        obtain ⟨he, htg⟩ := hE
        have HE : Hid (LiE w base gp doc g off n cap L v os R (wrongE doc l er) w4) := by
          have h1 := HRK.out
          have h4 := HRV.out
          rw [HML.out] at h4
          rw [hk1, lpM_bad HU.out.1 (HU.out.2.1.trans h2.symm) HU.out.2.2 hun h4] at h1
          show LiE _ _ _ _ _ _ _ _ _ _ _ _ _ _
          rw [← h1]
          exact ⟨rfl, HN3.out.2.1.trans htg HLI2.out.row⟩
        clear htg hun
        unfold wrongE at he HE
        subst he
        exact ⟨rfl, HE.out⟩
end Go.Proofs.YtmmnpnhffgpchaaGreatDoor

/-
  A grower takes the pairs of a map.
-/
namespace Go.Proofs.YtmmnpnhffgpchaaGreatDoor
open Go.RowKit
set_option linter.unusedVariables false
set_option linter.unusedSimpArgs false
set_option maxRecDepth 100000
def Rz : Value → Option (DataW Unit × List MemPlace)
  | .agg ⟨[]⟩ => some (.nil, [])
  | _ => none
theorem rz_inv {v : Value} {x : DataW Unit × List MemPlace} (h : Rz v = some x) : v = .agg #[] := by
  unfold Rz at h
  split at h
  · rfl
  · cases h
theorem mp_keep {w w' : World} {mb n : Nat} {D : DataW Unit} (h : w.ownsMap Tryz.prog 9 Rz mb n D) (hk : w'.heap[mb]? = w.heap[mb]?) : w'.ownsMap Tryz.prog 9 Rz mb n D := by
  obtain ⟨es, clock, hb, F, hs, hD⟩ := h
  exact ⟨es, clock, hk.trans hb, F, hs, hD⟩
theorem mp_ne {w : World} {mb n base m size : Nat} {e : TypeId} {v : Value} {xs : List Value} {D : DataW Unit} (h : w.ownsMap Tryz.prog 9 Rz mb n D) (hr : w.ownsRow base e size v m xs) : v.ownBlock ≠ some mb := by
  intro he
  obtain ⟨cur, hc⟩ := own_cells hr mb he
  obtain ⟨es, clock, hb, _⟩ := h
  rw [hb] at hc
  cases hc
theorem zero97 (W : World) : (zeroValue 124).run Tryz.prog W = .ok (.agg #[]) W := by kernel_rfl
theorem Li.mapped {w wr w3 : World} {base gp : Nat} {doc : Int} {g off n cap : Nat} {L : List Tk} {v0 : Value} {os : List Nx} {ts : List Tr} {kv : Value} {q : Nat} {v : Value} {ns : List Nx} {mb cnt : Nat} {D : DataW Unit} (h : Li w wr base gp doc g off n cap L v0 os ts kv q v ns) (hm : wr.ownsMap Tryz.prog 9 Rz mb cnt D) (h1 : w.heap.size ≤ mb) (h2 : base ≤ mb) (hg : wr.grownBy w3 (some mb)) : Li w w3 base gp doc g off n cap L v0 os ts kv q v ns := by
  have hb : ∀ k, k < wr.heap.size → k ≠ mb → w3.heap[k]? = wr.heap[k]? := fun k hk hne => hg.block k hk (fun e => hne (Option.some.inj e))
  have hbw := h.gs.bw
  refine ⟨h.gs.keep hg.size (hb gp (by have := h.gs.gplt; omega) (by have := h.gs.gplt; omega)) (hb g (by have := h.gs.glt; omega) (by have := h.gs.glt; omega)) (h.gs.own.keep (fun k hk => hb k (h.gs.own.row.lt k hk).2 (fun e => mp_ne hm h.gs.own.row (e ▸ hk))) (fun x hx k hk => hb k ((h.gs.own.kids x hx).1.lt k hk).2 (fun e => mp_ne hm (h.gs.own.kids x hx).1 (e ▸ hk)))), h.nds, own_block h.kids (fun k hk => hb k (h.kids.lt k hk).2 (fun e => mp_ne hm h.kids (e ▸ hk))), h.far, ⟨hg.os.trans h.tg.os, hg.tape.trans h.tg.tape, hg.output.trans h.tg.output, Nat.le_trans h.tg.size hg.size, fun k hk hk2 hk3 => (hb k (Nat.lt_of_lt_of_le hk h.tg.size) (by omega)).trans (h.tg.block k hk hk2 hk3)⟩, h.row, h.new⟩
set_option maxHeartbeats 8000000 in
theorem pairs_any (w : World) (base gp : Nat) (doc : Int) (g off n cap : Nat) (L : List Tk) (q : Nat) (v : Value) (os : List Nx) (t0 : Tk) (d : Int) (f : Nat) (hdf : d + 1 + (f : Int) = 17) (d0 : 0 ≤ d) (h : Gs w base gp doc g off n cap L q v os) (h2 : t0.kd = 3) (hC : BlkC base gp doc g off n cap L f (d + 1)) :
    Calls Tryz.prog 55 #[.pointer (some ⟨gp, 0, none⟩), .int .i64 t0.col, .int .i64 d] w (LiE w base gp doc g off n cap L v os (lpM (valM (blkM L f) (decide (f = 0)) L) L t0 (L.length - q) [] q os.length)) := by
  obtain ⟨R, hR⟩ : ∃ R, lpM (valM (blkM L f) (decide (f = 0)) L) L t0 (L.length - q) [] q os.length = R := ⟨_, rfl⟩
  rw [hR]
  have HR := hideL hR
  have HG := hideL h
  have HC := hideL hC
  have HO : Hid (∀ x ∈ os, ∀ r, x.kv.ownBlock = some r → r < w.heap.size) := fun x hx r hr => ((h.own.kids x hx).1.lt r hr).2
  obtain ⟨i3, hi3, hy0, hy1, hy2⟩ := info_parts Tryz.info3
  have hlen := h.len
  have HBW := hideL h.bw
  have dw : IntKind.i64.wrap (d + 1) = d + 1 := by rw [IntKind.wrap_i64]; omega
  have hmm := @run_makeMap Tryz.prog
  clear hR h hC
  go_enter Tryz.func55, Tryz.ntmps55
  go_wp2_with (fail)
  go_loopw [7] (fun u7 wr => ∃ (ts : List Tr) (q2 : Nat) (v2 : Value) (ns : List Nx) (k : Nat) (D : DataW Unit), Li w wr base gp doc g off n cap L v os ts u7 q2 v2 ns ∧ wr.ownsMap Tryz.prog 9 Rz w.heap.size ts.length D ∧ KS D (ts.map Tr.key) ∧ n - q2 ≤ k ∧ lpM (valM (blkM L f) (decide (f = 0)) L) L t0 k ts q2 (os.length + sizes ts) = R) (fun _ wr => gLen gp wr)
  case atStart => exact ⟨[], q, v, [], L.length - q, _, (Li.start HG.out).turn (by rw [List.append_nil]; exact HG.out.below ((Below.refl _ w).alloc (Nat.le_refl _) _)) (But.of_below ((Below.refl _ w).alloc (Nat.le_refl _) _)), World.ownsMap_made (H := Unit) w Tryz.prog 9 Rz, KS.nil, by omega, by simpa [sizes] using HR.out⟩
  case round =>
    obtain ⟨ts, q2, v2, ns, k, D, hli, hmp, hks, hk, hRk⟩ := hrel
    have HLI := hideL hli
    have HRK := hideL hRk
    have HKS := hideL hks
    obtain ⟨ka, kc, rfl, _, hKc, hkm⟩ := own_form hli.kids
    obtain ⟨K, hK⟩ : ∃ K, ts.length = K := ⟨_, rfl⟩
    rw [hK] at hKc hmp ⊢
    have HKL := hideL hK
    have HMP := hideL hmp
    clear hmm
    cases hnx : nxB L q2 3 t0.col with
    | false =>
      have hI := isNext_any wr base gp doc g off n cap L q2 v2 (os ++ ns) 3 t0.col hli.gs
      rw [hnx] at hI
      have HE : Hid (LiE w base gp doc g off n cap L v os R (.returned (.slice ka K kc)) wr) := by
        have he := lpM_end (V := valM (blkM L f) (decide (f = 0)) L) (L := L) (t0 := t0) (k := k) (q := q2) (made := os.length + sizes ts) (acc := ts) (by rw [h2]; exact nxB_none hnx)
        rw [HRK.out] at he
        subst he
        exact ⟨rfl, .slice ka K kc, v2, ns, rfl, by rw [← HKL.out]; exact HLI.out⟩
      clear hli hRk hK hnx hmp hks
      go_wp2_with (go_at_call 74; refine hI.mono ?_; rintro e w1 ⟨rfl, rfl⟩)
      go_ret
      exact HE.out
    | true =>
      obtain ⟨u, hu, hu2, huc⟩ := nxB_some hnx
      have hI := isNext_any wr base gp doc g off n cap L q2 v2 (os ++ ns) 3 t0.col hli.gs
      rw [hnx] at hI
      have hq2 : q2 < n := by have := (List.getElem?_eq_some_iff.1 hu).1; omega
      have hT := take_any wr base gp doc g off n cap L q2 v2 (os ++ ns) u hli.gs hq2 hu
      have HU := hideL (And.intro hu (And.intro hu2 huc))
      have HTXS : Hid (u.tx.size ≤ 281474976710656) := hli.gs.str u (List.mem_of_getElem? hu)
      obtain ⟨va, vc, hv, _, hMc, hvm⟩ := own_form hli.gs.own.row
      subst hv
      obtain ⟨M, hM⟩ : ∃ M, (os ++ ns).length = M := ⟨_, rfl⟩
      have HM := hideL hM
      have HML : Hid (M = os.length + sizes ts) := by show _ = _; rw [← hM]; exact hli.lens
      have hM4 : M ≤ 4096 := by rw [← hM]; exact hli.gs.few
      have hKM : K ≤ M := by have := len_sizes ts; have := HML.out; omega
      rw [hM] at hT hMc
      have HUS : Hid (u.kd = 2 ∨ u.kd = 3) := .inr hu2
      have HWS : Hid (∀ r, (Value.slice ka K kc).ownBlock = some r → r < wr.heap.size) := fun r hr => by
        have h1 := hli.kids
        rw [hK] at h1
        exact (h1.lt r hr).2
      obtain ⟨kd, line, col, tx, quo⟩ := u
      unfold tokV at hT
      dsimp only at *
      have hKm : K + 1 ≤ maxLen := by unfold maxLen; omega
      have hKx : K < maxLen := by unfold maxLen; omega
      have hKb : (K + 1) * 8 ≤ 140737488355328 := by omega
      have hkey := Go.WideMaps.keyOf_string_mk (P := Tryz.prog) Tryz.underlying9 (s := tx) (by have := HTXS.out; unfold maxLen; omega)
      clear hli hRk hK hnx hu hu2 huc hM hmp hks
      cases hhas : Go.Maps.has D (Lit.string tx.data.toList) with
      | true =>
        have htw : (⟨kd, line, col, tx, quo⟩ : Tk).kd = 3 ∧ ∃ x ∈ ts, x.key = (⟨kd, line, col, tx, quo⟩ : Tk).tx := by
          refine ⟨HU.out.2.1, ?_⟩
          have := (HKS.out.has tx).1 hhas
          obtain ⟨x, hx, e⟩ := List.mem_map.1 this
          exact ⟨x, hx, e⟩
        have HTW := hideL htw
        clear htw
        go_wp2_with (first
          | (go_at_call 74; refine hI.mono ?_; rintro e w1 ⟨rfl, rfl⟩)
          | (go_at_call 54; refine hT.mono ?_; rintro e w2 ⟨rfl, hg2, hb2⟩; have HLI2 : Hid (Li w ((w2.alloc (.cells #[.int .i64 kd, .int .i64 line, .int .i64 col, .string tx, .bool quo] 52)).alloc (.cells #[] 124)) base gp doc g off n cap L v os ts (.slice ka K kc) (q2 + 1) (.slice va M vc) ns) := (by have h1 := HLI.out; rw [HKL.out, HM.out] at h1; exact h1.turn (hg2.below (two_alloc _ _ _)) (hb2.trans (But.of_below (two_alloc _ _ _)))); have HB2 := hideL hb2; have HMP2 : Hid ((w2.alloc (.cells #[.int .i64 kd, .int .i64 line, .int .i64 col, .string tx, .bool quo] 52)).ownsMap Tryz.prog 9 Rz w.heap.size K D) := ((mp_keep HMP.out (hb2.block _ HMP.out.lt (by have := HG.out.gplt; have := HBW.out; omega))).alloc _); have HMP3 : Hid (((w2.alloc (.cells #[.int .i64 kd, .int .i64 line, .int .i64 col, .string tx, .bool quo] 52)).alloc (.cells #[] 124)).ownsMap Tryz.prog 9 Rz w.heap.size K D) := HMP2.out.alloc _; obtain ⟨vz, ps, hlk, hrz⟩ := HMP2.out.look_ok (Go.Maps.string_keyed Tryz.underlying9) Tryz.underlying122 (zero97 _) rfl hkey; have hvz := rz_inv hrz; subst hvz; rw [hhas] at hlk; clear hg2 hb2 hrz))
        have hg := giveUp_any _ base gp doc g off n cap L (q2 + 1) (.slice va M vc) (os ++ ns) ⟨kd, line, col, tx, quo⟩ 91 HLI2.out.gs
        unfold tokV at hg
        dsimp only at hg
        refine hg.mono ?_
        clear hg
        rintro e w3 ⟨he, hb3⟩
        obtain ⟨k1, hk1⟩ : ∃ k1, k = k1 + 1 := ⟨k - 1, by omega⟩
        have HE : Hid (LiE w base gp doc g off n cap L v os R (wrongE doc line 91) w3) := by
          have h1 := HRK.out
          rw [hk1, lpM_twice HU.out.1 (HU.out.2.1.trans h2.symm) HU.out.2.2 HTW.out] at h1
          show LiE _ _ _ _ _ _ _ _ _ _ _ _ _ _
          rw [← h1]
          exact ⟨rfl, HLI2.out.tg.trans (Tg.of_below gp (.slice va M vc) hb3) HLI2.out.row⟩
        clear hb3
        unfold wrongE at he HE
        subst he
        exact ⟨rfl, HE.out⟩
      | false =>
        have hun : ¬ ((⟨kd, line, col, tx, quo⟩ : Tk).kd = 3 ∧ ∃ x ∈ ts, x.key = (⟨kd, line, col, tx, quo⟩ : Tk).tx) := by
          rintro ⟨_, x, hx, e⟩
          have : tx ∈ ts.map Tr.key := List.mem_map.2 ⟨x, hx, e⟩
          have := (HKS.out.has tx).2 this
          have e2 : Go.Maps.has D (litK tx) = false := hhas
          rw [this] at e2
          cases e2
        have HUN := hideL hun
        clear hun
        go_wp2_with (first
          | (go_at_call 74; refine hI.mono ?_; rintro e w1 ⟨rfl, rfl⟩)
          | (go_at_call 54; refine hT.mono ?_; rintro e w2 ⟨rfl, hg2, hb2⟩; have HLI2 : Hid (Li w ((w2.alloc (.cells #[.int .i64 kd, .int .i64 line, .int .i64 col, .string tx, .bool quo] 52)).alloc (.cells #[] 124)) base gp doc g off n cap L v os ts (.slice ka K kc) (q2 + 1) (.slice va M vc) ns) := (by have h1 := HLI.out; rw [HKL.out, HM.out] at h1; exact h1.turn (hg2.below (two_alloc _ _ _)) (hb2.trans (But.of_below (two_alloc _ _ _)))); have HB2 := hideL hb2; have HMP2 : Hid ((w2.alloc (.cells #[.int .i64 kd, .int .i64 line, .int .i64 col, .string tx, .bool quo] 52)).ownsMap Tryz.prog 9 Rz w.heap.size K D) := ((mp_keep HMP.out (hb2.block _ HMP.out.lt (by have := HG.out.gplt; have := HBW.out; omega))).alloc _); have HMP3 : Hid (((w2.alloc (.cells #[.int .i64 kd, .int .i64 line, .int .i64 col, .string tx, .bool quo] 52)).alloc (.cells #[] 124)).ownsMap Tryz.prog 9 Rz w.heap.size K D) := HMP2.out.alloc _; obtain ⟨vz, ps, hlk, hrz⟩ := HMP2.out.look_ok (Go.Maps.string_keyed Tryz.underlying9) Tryz.underlying122 (zero97 _) rfl hkey; have hvz := rz_inv hrz; subst hvz; rw [hhas] at hlk; clear hg2 hb2 hrz)
          | (at_mapUpdate; refine wpList_mapUpdate_own _ rfl _ _ _ 122 rfl 9 124 (Go.Maps.string_keyed Tryz.underlying9) Tryz.underlying122 _ w.heap.size K D rfl HMP3.out hKx _ _ _ rfl rfl hkey .nil [] rfl ?_; intro w3 hownm hgrowm; have HMP4 := hideL hownm; have HLI3 := hideL (HLI2.out.mapped HMP3.out (Nat.le_refl _) HBW.out hgrowm); have HM3S := hideL hgrowm.size; have c3 : w3.cell? ⟨gp, 2, none⟩ = some (.slice va M vc) := (by obtain ⟨oq, h1, _⟩ := HLI3.out.gs.blk; rw [cell_block h1]; rfl); have hb3 : w3.heap[w2.heap.size]? = some (.cells #[.int .i64 kd, .int .i64 line, .int .i64 col, .string tx, .bool quo] 52 (0, 0)) := (by rw [hgrowm.block w2.heap.size (by simp; omega) (fun e => by have e := Option.some.inj e; have := HMP.out.lt; have := HB2.out.size; omega), Below.heap_alloc _ _ _ (by simp)]; exact Go.heap_alloc_new _ _); have HB3 := hideL hb3; have HKA : Hid ((w3.alloc (Obj.cells #[.int .i64 M] 3)).ownsRow base 3 1 (.slice ka K kc) K (iV (starts ts os.length))) := (by have h1 := HLI3.out.kids; rw [HKL.out] at h1; exact h1.alloc _); have hwb : base ≤ (w3.alloc (Obj.cells #[.int .i64 M] 3)).heap.size := (by have := HLI3.out.gs.bw; simp; omega); clear hownm hgrowm hb3)
          | (at_builtin; refine wpList_append_at _ rfl (.tmp 33) (.tmp 39) 66 rfl base 3 i3 (.int .i64 0) 1 8 Tryz.underlying66 hi3 hy0 hy1 hy2 rfl (by decide) _ K (iV (starts ts os.length)) rfl HKA.out ⟨w3.heap.size, 0, none⟩ 1 1 [.int .i64 M] rfl rfl (World.news_of_block (Go.heap_alloc_new w3 _)) (by intro u hu; simp at hu; subst hu; rfl) hKm hKb hwb ?_; intro kv4 w4 hown4 hgrow4 hat4; have HN4 := hideL (HLI3.out.numbered HO.out hgrow4); have HW4 := hideL hown4; have HG4 := hideL hgrow4; have HA4 := hideL hat4; obtain ⟨k4, c4, rfl, _⟩ := own_form hown4; have HMP5 : Hid (w4.ownsMap Tryz.prog 9 Rz w.heap.size (K + 1) (D.put (litK tx) .nil)) := (HMP4.out.alloc _).kept hgrow4 (fun e => by have := mp_ne HMP4.out (by have h1 := HLI3.out.kids; rw [HKL.out] at h1; exact h1); exact this e.symm); have hb4 : w4.heap[w2.heap.size]? = some (.cells #[.int .i64 kd, .int .i64 line, .int .i64 col, .string tx, .bool quo] 52 (0, 0)) := (by rw [hgrow4.block w2.heap.size (by have := (Array.getElem?_eq_some_iff.1 HB3.out).1; simp; omega) (fun e => by have := HWS.out _ e.symm; have := HB2.out.size; omega), Below.heap_alloc _ _ _ (Array.getElem?_eq_some_iff.1 HB3.out).1]; exact HB3.out); obtain ⟨⟨s0, s1, s2, s3, s4⟩, -⟩ := cells5 hb4; clear hown4 hgrow4 hat4 hb4))
        have hv := gvalue_any w4 base gp doc g off n cap L (q2 + 1) (.slice va M vc) (os ++ ns) ⟨kd, line, col, tx, quo⟩ tx (d + 1) f hdf HN4.out.1 HUS.out HTXS.out HC.out
        rw [HM.out] at hv
        obtain ⟨rv, hrv⟩ : ∃ rv, valM (blkM L f) (decide (f = 0)) L ⟨kd, line, col, tx, quo⟩ (q2 + 1) M = rv := ⟨_, rfl⟩
        rw [hrv] at hv
        have HRV := hideL hrv
        unfold tokV at hv
        dsimp only at hv
        clear hrv
        refine hv.mono ?_
        clear hv
        intro e w5 hE
        obtain ⟨k1, hk1⟩ : ∃ k1, k = k1 + 1 := ⟨k - 1, by omega⟩
        cases rv with
        | ok tv q3 made3 =>
          obtain ⟨rfl, hmade, v4, ns2, hO4⟩ := hE
          rw [HM.out] at hmade hO4
          have HLI4 : Hid (Li w w5 base gp doc g off n cap L v os (ts ++ [tv.withKey tx]) (.slice k4 (K + 1) c4) q3 v4 (ns ++ ns2)) := by
            have h3 := HW4.out
            refine HLI3.out.more HO.out ?_ HG4.out HA4.out ?_
            · rw [HKL.out, ← HML.out]; exact h3
            · rw [← HML.out]; exact hO4
          have HMP6 : Hid (w5.ownsMap Tryz.prog 9 Rz w.heap.size (ts ++ [tv.withKey tx]).length (D.put (litK tx) .nil)) := by
            have h1 := mp_keep (w' := w5) HMP5.out (hO4.tg.block _ HMP5.out.lt (by have := HG.out.gplt; have := HBW.out; omega) (mp_ne HMP5.out (by have h2 := HN4.out.1.own.row; exact h2)))
            rw [List.length_append, HKL.out]
            exact h1
          have HKS6 : Hid (KS (D.put (litK tx) .nil) ((ts ++ [tv.withKey tx]).map Tr.key)) := by
            have := HKS.out.put tx
            rw [List.map_append]
            have e1 : [tv.withKey tx].map Tr.key = [tx] := by cases tv; rfl
            rw [e1]
            exact this
          have hqq : q2 + 1 ≤ q3 := valM_le (fun t q2 m2 h => blkM_le f _ _ t q2 m2 h) HRV.out
          have HR4 : Hid (lpM (valM (blkM L f) (decide (f = 0)) L) L t0 k1 (ts ++ [tv.withKey tx]) q3 (os.length + sizes (ts ++ [tv.withKey tx])) = R) := by
            have h1 := HRK.out
            have h4 := HRV.out
            rw [HML.out] at h4
            rw [hk1, lpM_step HU.out.1 (HU.out.2.1.trans h2.symm) HU.out.2.2 HUN.out h4] at h1
            have e1 : (if (⟨kd, line, col, tx, quo⟩ : Tk).kd = 3 then (⟨kd, line, col, tx, quo⟩ : Tk).tx else ByteArray.empty) = tx := if_pos HU.out.2.1
            rw [e1] at h1
            have e2 : os.length + sizes (ts ++ [tv.withKey tx]) = made3 := by
              rw [sizes_snoc, size_withKey, hmade, HML.out]; omega
            show _ = _
            rw [e2]
            exact h1
          have HMS : Hid (gLen gp w5 < gLen gp w1) := by
            have a1 := HLI4.out.gs.left
            have a2 := HLI.out.gs.left
            show _ < _
            rw [a1, a2]; omega
          clear hO4 hmade
          go_wp2_with (fail)
          go_roundw
          case rel => exact ⟨ts ++ [tv.withKey tx], q3, v4, ns ++ ns2, k1, _, HLI4.out, HMP6.out, HKS6.out, by omega, HR4.out⟩
          case measure => exact HMS.out
        | bad l er q3 made3 =>
          obtain ⟨he, htg⟩ := hE
          have HE : Hid (LiE w base gp doc g off n cap L v os R (wrongE doc l er) w5) := by
            have h1 := HRK.out
            have h4 := HRV.out
            rw [HML.out] at h4
            rw [hk1, lpM_bad HU.out.1 (HU.out.2.1.trans h2.symm) HU.out.2.2 HUN.out h4] at h1
            show LiE _ _ _ _ _ _ _ _ _ _ _ _ _ _
            rw [← h1]
            exact ⟨rfl, HN4.out.2.1.trans htg HLI3.out.row⟩
          clear htg
          unfold wrongE at he HE
          subst he
          exact ⟨rfl, HE.out⟩
end Go.Proofs.YtmmnpnhffgpchaaGreatDoor

/-
  A grower takes a block.
-/
namespace Go.Proofs.YtmmnpnhffgpchaaGreatDoor
open Go.RowKit
set_option linter.unusedVariables false
set_option linter.unusedSimpArgs false
set_option maxRecDepth 100000
/-- the kids stored: done -/
theorem Li.done {w wr : World} {base gp : Nat} {doc : Int} {g off n cap : Nat} {L : List Tk} {v0 : Value} {os : List Nx} {ts : List Tr} {kd : Int} {key tx : ByteArray} {quo : Bool} {ln : Int} {ka : Option Addr} {kc b m cp q : Nat} {ns : List Nx} (h : Li w wr base gp doc g off n cap L v0 (os ++ [bareN kd key tx quo ln]) ts (.slice ka ts.length kc) q (.slice (some ⟨b, 0, none⟩) m cp) ns) (hm : m = os.length + 1 + sizes ts) :
    Gs (wr.setCell ⟨b, os.length * 6 + 5, none⟩ (.slice ka ts.length kc)) base gp doc g off n cap L q (.slice (some ⟨b, 0, none⟩) m cp) (os ++ (⟨kd, key, tx, quo, ln, ka, ts.length, kc, starts ts (os.length + 1)⟩ :: ns)) ∧ (List.map Nx.nd ((⟨kd, key, tx, quo, ln, ka, ts.length, kc, starts ts (os.length + 1)⟩ : Nx) :: ns) = Tr.flat (.node kd key tx quo ln ts) os.length) ∧ Tg w (wr.setCell ⟨b, os.length * 6 + 5, none⟩ (.slice ka ts.length kc)) gp v0 ∧ (∀ o ∈ ((⟨kd, key, tx, quo, ln, ka, ts.length, kc, starts ts (os.length + 1)⟩ : Nx) :: ns), ∀ r, o.kv.ownBlock = some r → w.heap.size ≤ r) := by
  have hl := h.lens
  have hlo : (os ++ [bareN kd key tx quo ln]).length = os.length + 1 := by simp
  rw [hlo] at hl
  have hO := h.gs.own
  rw [List.append_assoc] at hO
  have hr := hO.row
  have hl2 : (os ++ ([bareN kd key tx quo ln] ++ ns)).length = m := by rw [hm, ← hl, List.append_assoc]
  rw [hl2] at hr
  have hbb : base ≤ b := (hr.lt b rfl).1
  have hts : ts.length ≤ 17592186043904 := by
    have := len_sizes ts
    have := h.gs.few
    rw [h.lens, hlo] at this
    omega
  have hkid := h.kids
  rw [hlo] at hkid
  have ho : ∀ k, k ≠ b → (wr.setCell ⟨b, os.length * 6 + 5, none⟩ (.slice ka ts.length kc)).heap[k]? = wr.heap[k]? := fun k hk => Below.heap_setCell _ _ _ _ hk
  have hown : Own (wr.setCell ⟨b, os.length * 6 + 5, none⟩ (.slice ka ts.length kc)) base (.slice (some ⟨b, 0, none⟩) m cp) (os ++ (⟨kd, key, tx, quo, ln, ka, ts.length, kc, starts ts (os.length + 1)⟩ :: ns)) := by
    refine ⟨?_, fun x hx => ?_⟩
    · have h1 := (hr.stored (os.length * 6 + 5) (.slice ka ts.length kc)).1
      have e2 : (rowsN (os ++ ([bareN kd key tx quo ln] ++ ns))).set (os.length * 6 + 5) (.slice ka ts.length kc) = rowsN (os ++ (⟨kd, key, tx, quo, ln, ka, ts.length, kc, starts ts (os.length + 1)⟩ :: ns)) := by
        rw [rowsN_append os, rowsN_append os, List.set_append_right _ _ (by rw [rowsN_length]; omega), rowsN_length]
        rw [show os.length * 6 + 5 - os.length * 6 = 5 by omega]
        rfl
      rw [e2] at h1
      have e3 : (os ++ (⟨kd, key, tx, quo, ln, ka, ts.length, kc, starts ts (os.length + 1)⟩ : Nx) :: ns).length = m := by rw [← hl2]; simp
      rw [e3]
      exact h1
    · have hne : ∀ k, k = b → ∀ (v1 : Value) n1 x1, wr.ownsRow base 3 1 v1 n1 x1 → v1.ownBlock ≠ some k := fun k hk v1 n1 x1 hv e => by
        subst hk
        exact own_ne hv hr e rfl
      rcases List.mem_append.1 hx with hx | hx
      · have hx' := hO.kids x (List.mem_append.2 (.inl hx))
        exact ⟨own_block hx'.1 (fun k hk => ho k (fun e => hne k e _ _ _ hx'.1 hk)), hx'.2⟩
      · rcases List.mem_cons.1 hx with rfl | hx
        · exact ⟨own_block hkid (fun k hk => ho k (fun e => hne k e _ _ _ hkid hk)), hts⟩
        · have hx' := hO.kids x (List.mem_append.2 (.inr (List.mem_append.2 (.inr hx))))
          exact ⟨own_block hx'.1 (fun k hk => ho k (fun e => hne k e _ _ _ hx'.1 hk)), hx'.2⟩
  have hg := h.gs
  have hgp := hg.gplt
  have hgl := hg.glt
  refine ⟨?_, ?_, ?_, fun x hx r hr2 => ?_⟩
  · have hk := hg.own
    exact {
      blk := by
        obtain ⟨oq, h1, h2⟩ := hg.blk
        exact ⟨oq, (ho gp (by omega)).trans h1, h2⟩
      ts := fun i t hi j u hu => by
        rw [← hg.ts i t hi j u hu]
        exact World.cell?_of_block (w := wr) (a := ⟨g, off + i * 5 + j, none⟩) (ho g (by omega))
      str := hg.str
      len := hg.len
      small := hg.small
      ncap := hg.ncap
      cape := hg.cape
      q := hg.q
      gne := hg.gne
      glt := hg.glt
      gplt := hg.gplt
      own := hown
      few := by
        have := hg.few
        rw [h.lens, hlo] at this
        have e3 : (os ++ (⟨kd, key, tx, quo, ln, ka, ts.length, kc, starts ts (os.length + 1)⟩ : Nx) :: ns).length = m := by rw [← hl2]; simp
        rw [e3, hm]; omega
      bw := by have := hg.bw; simpa [World.setCell] using this }
  · rw [Tr.flat, List.map_cons, h.nds, hlo]; rfl
  · refine h.tg.trans (v1 := .slice (some ⟨b, 0, none⟩) m cp) ⟨rfl, rfl, rfl, by simp [World.setCell], fun k hk _ hne => ho k (fun e => hne (by rw [e]; rfl))⟩ h.row
  · rcases List.mem_cons.1 hx with rfl | hx
    · exact h.far r hr2
    · exact (h.new x hx r hr2).1
/-- what the walks of a block begin with -/
structure Bst (w : World) (base gp : Nat) (doc : Int) (g off n cap : Nat) (L : List Tk) (q : Nat) (v : Value) (os : List Nx) (t : Tk) (oq m c : Nat) : Prop where
  z1 : w.cell? ⟨gp, 1, none⟩ = some (.slice (some ⟨g, oq, none⟩) m c)
  m1 : 1 ≤ m
  y0 : w.cell? ⟨g, oq, none⟩ = some (.int .i64 t.kd)
  y1 : w.cell? ⟨g, oq + 1, none⟩ = some (.int .i64 t.line)
  y2 : w.cell? ⟨g, oq + 2, none⟩ = some (.int .i64 t.col)
  y3 : w.cell? ⟨g, oq + 3, none⟩ = some (.string t.tx)
  y4 : w.cell? ⟨g, oq + 4, none⟩ = some (.bool t.quo)
theorem Gs.bst {w : World} {base gp : Nat} {doc : Int} {g off n cap : Nat} {L : List Tk} {q : Nat} {v : Value} {os : List Nx} {t : Tk} (h : Gs w base gp doc g off n cap L q v os) (ht : L[q]? = some t) : ∃ oq m c, Bst w base gp doc g off n cap L q v os t oq m c := by
  obtain ⟨oq, hblk, hoq⟩ := h.blk
  have hq : q < n := by have := (List.getElem?_eq_some_iff.1 ht).1; have := h.len; omega
  obtain ⟨y0, y1, y2, y3, y4⟩ := h.tok ht
  rw [← hoq hq] at y0 y1 y2 y3 y4
  exact ⟨oq, n - q, cap - q, by rw [cell_block hblk]; rfl, by omega, y0, y1, y2, y3, y4⟩
/-- too deep, or too many -/
theorem block_dead (w : World) (base gp : Nat) (doc : Int) (g off n cap : Nat) (L : List Tk) (q : Nat) (v : Value) (os : List Nx) (t : Tk) (key : ByteArray) (d : Int) (h : Gs w base gp doc g off n cap L q v os) (ht : L[q]? = some t) (hkd : 2 ≤ t.kd ∧ t.kd ≤ 4) (hdead : 16 < d ∨ os.length = 4096) :
    Calls Tryz.prog 31 #[.pointer (some ⟨gp, 0, none⟩), .string key, .int .i64 d] w fun e w' => e = wrongE doc t.line 92 ∧ Tg w w' gp v := by
  obtain ⟨oq, m, c, z1, m1, y0, y1, y2, y3, y4⟩ := h.bst ht
  have HB : Hid (∀ (kd1 : Int) (tx1 : ByteArray) (q1 : Bool) (A : Obj), Calls Tryz.prog 53 #[.pointer (some ⟨gp, 0, none⟩), tokV t, nodV kd1 key tx1 q1, .int .i64 d] (w.alloc A) fun e w' => e = wrongE doc t.line 92 ∧ Tg w w' gp v) := fun kd1 tx1 q1 A => by
    have hb : Below w.heap.size w (w.alloc A) := (Below.refl _ w).alloc (Nat.le_refl _) _
    refine (begin_bad (w.alloc A) base gp doc g off n cap L q v os t kd1 key tx1 q1 d (h.below hb) hdead).mono ?_
    rintro e w' ⟨rfl, hb2⟩
    exact ⟨rfl, (Tg.of_below gp v hb).trans (Tg.of_below gp v hb2) (.inl rfl)⟩
  have i2 : (0 : Int) < (m : Int) := by omega
  have hp0 : 0 < m := by omega
  obtain ⟨kd, line, col, tx, quo⟩ := t
  unfold tokV nodV at HB
  dsimp only at *
  clear h ht hdead
  have hk : kd = 4 ∨ kd = 3 ∨ kd = 2 := by omega
  clear hkd
  rcases hk with rfl | rfl | rfl
  · go_enter Tryz.func31, Tryz.ntmps31
    go_wp2_with (go_at_call 53; refine (HB.out _ _ _ _).mono ?_; rintro e w' ⟨he, hb⟩; unfold wrongE at he; subst he)
    exact ⟨rfl, rfl, hb⟩
  · go_enter Tryz.func31, Tryz.ntmps31
    go_wp2_with (go_at_call 53; refine (HB.out _ _ _ _).mono ?_; rintro e w' ⟨he, hb⟩; unfold wrongE at he; subst he)
    exact ⟨rfl, rfl, hb⟩
  · go_enter Tryz.func31, Tryz.ntmps31
    go_wp2_with (go_at_call 53; refine (HB.out _ _ _ _).mono ?_; rintro e w' ⟨he, hb⟩; unfold wrongE at he; subst he)
    exact ⟨rfl, rfl, hb⟩
/-- a scalar -/
theorem block_leaf (w : World) (base gp : Nat) (doc : Int) (g off n cap : Nat) (L : List Tk) (q : Nat) (v : Value) (os : List Nx) (t : Tk) (key : ByteArray) (d : Int) (h : Gs w base gp doc g off n cap L q v os) (ht : L[q]? = some t) (hkd : t.kd = 4) (hd : d ≤ 16) (hl : os.length < 4096) (hks : key.size ≤ 281474976710656) :
    Calls Tryz.prog 31 #[.pointer (some ⟨gp, 0, none⟩), .string key, .int .i64 d] w (GwE w base gp doc g off n cap L v os key (.ok (.node 1 ByteArray.empty t.tx t.quo t.line []) (q + 1) (os.length + 1))) := by
  obtain ⟨oq, m, c, z1, m1, y0, y1, y2, y3, y4⟩ := h.bst ht
  have hq : q < n := by have := (List.getElem?_eq_some_iff.1 ht).1; have := h.len; omega
  have HB : Hid (∀ (A : Obj), Calls Tryz.prog 53 #[.pointer (some ⟨gp, 0, none⟩), tokV t, nodV 1 key t.tx t.quo, .int .i64 d] (w.alloc A) fun e w' => (∃ z, e = .returned (.int .i64 z)) ∧ Calls Tryz.prog 54 #[.pointer (some ⟨gp, 0, none⟩)] w' fun e2 w2 => e2 = .returned (tokV t) ∧ GwE w base gp doc g off n cap L v os key (.ok (.node 1 ByteArray.empty t.tx t.quo t.line []) (q + 1) (os.length + 1)) (.returned (.tuple #[])) w2) := fun A => by
    have hb : Below w.heap.size w (w.alloc A) := (Below.refl _ w).alloc (Nat.le_refl _) _
    refine (begin_ok (w.alloc A) base gp doc g off n cap L q v os t 1 key t.tx t.quo d (h.below hb) hd hl hks (h.str t (List.mem_of_getElem? ht))).mono ?_
    rintro e w' ⟨rfl, v', hg, htg, hr⟩
    refine ⟨⟨_, rfl⟩, ?_⟩
    refine (take_any w' base gp doc g off n cap L q v' _ t hg hq ht).mono ?_
    rintro e2 w2 ⟨rfl, hg2, hb2⟩
    exact ⟨rfl, GwE.of_below hb (GwE.leaf hg2 (htg.trans (Tg.of_but v' hb2) hr) hr)⟩
  have i2 : (0 : Int) < (m : Int) := by omega
  have hp0 : 0 < m := by omega
  obtain ⟨kd, line, col, tx, quo⟩ := t
  unfold tokV nodV at HB
  dsimp only at *
  subst hkd
  clear h ht hq hks hl
  generalize (Rr.ok (.node 1 ByteArray.empty tx quo line []) (q + 1) (os.length + 1)) = R at *
  go_enter Tryz.func31, Tryz.ntmps31
  go_wp2_with (first
    | (go_at_call 53; refine (HB.out _).mono ?_; rintro e w' ⟨⟨z, rfl⟩, hT⟩)
    | (go_at_call 54; refine hT.mono ?_; rintro e2 w2 ⟨rfl, hE⟩; have HE := hideL hE; clear hE))
  go_end0
  exact HE.out
end Go.Proofs.YtmmnpnhffgpchaaGreatDoor
