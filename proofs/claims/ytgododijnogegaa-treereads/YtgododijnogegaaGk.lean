/-
  A grower takes the pairs of a map.
-/
import Derived.Test.YtgododijnogegaaGj
import Derived.Test.YtgododijnogegaaUk
namespace Go.Proofs.Ytgododijnogegaa
open Go.RowKit
set_option linter.unusedVariables false
set_option linter.unusedSimpArgs false
set_option maxRecDepth 100000
def Rz : Value → Option (DataW Unit × List MemPlace)
  | .agg ⟨[]⟩ => some (.nil, [])
  | _ => none
theorem rz_inv {v : Value} {x : DataW Unit × List MemPlace} (h : Rz v = some x) : v = .agg #[] := by
  unfold Rz at h
  split at h
  · rfl
  · cases h
theorem mp_keep {w w' : World} {mb n : Nat} {D : DataW Unit} (h : w.ownsMap Try.prog 9 Rz mb n D) (hk : w'.heap[mb]? = w.heap[mb]?) : w'.ownsMap Try.prog 9 Rz mb n D := by
  obtain ⟨es, clock, hb, F, hs, hD⟩ := h
  exact ⟨es, clock, hk.trans hb, F, hs, hD⟩
theorem mp_ne {w : World} {mb n base m size : Nat} {e : TypeId} {v : Value} {xs : List Value} {D : DataW Unit} (h : w.ownsMap Try.prog 9 Rz mb n D) (hr : w.ownsRow base e size v m xs) : v.ownBlock ≠ some mb := by
  intro he
  obtain ⟨cur, hc⟩ := own_cells hr mb he
  obtain ⟨es, clock, hb, _⟩ := h
  rw [hb] at hc
  cases hc
theorem zero97 (W : World) : (zeroValue 97).run Try.prog W = .ok (.agg #[]) W := by kernel_rfl
theorem Li.mapped {w wr w3 : World} {base gp : Nat} {doc : Int} {g off n cap : Nat} {L : List Tk} {v0 : Value} {os : List Nx} {ts : List Tr} {kv : Value} {q : Nat} {v : Value} {ns : List Nx} {mb cnt : Nat} {D : DataW Unit} (h : Li w wr base gp doc g off n cap L v0 os ts kv q v ns) (hm : wr.ownsMap Try.prog 9 Rz mb cnt D) (h1 : w.heap.size ≤ mb) (h2 : base ≤ mb) (hg : wr.grownBy w3 (some mb)) : Li w w3 base gp doc g off n cap L v0 os ts kv q v ns := by
  have hb : ∀ k, k < wr.heap.size → k ≠ mb → w3.heap[k]? = wr.heap[k]? := fun k hk hne => hg.block k hk (fun e => hne (Option.some.inj e))
  have hbw := h.gs.bw
  refine ⟨h.gs.keep hg.size (hb gp (by have := h.gs.gplt; omega) (by have := h.gs.gplt; omega)) (hb g (by have := h.gs.glt; omega) (by have := h.gs.glt; omega)) (h.gs.own.keep (fun k hk => hb k (h.gs.own.row.lt k hk).2 (fun e => mp_ne hm h.gs.own.row (e ▸ hk))) (fun x hx k hk => hb k ((h.gs.own.kids x hx).1.lt k hk).2 (fun e => mp_ne hm (h.gs.own.kids x hx).1 (e ▸ hk)))), h.nds, own_block h.kids (fun k hk => hb k (h.kids.lt k hk).2 (fun e => mp_ne hm h.kids (e ▸ hk))), h.far, ⟨hg.os.trans h.tg.os, hg.tape.trans h.tg.tape, hg.output.trans h.tg.output, Nat.le_trans h.tg.size hg.size, fun k hk hk2 hk3 => (hb k (Nat.lt_of_lt_of_le hk h.tg.size) (by omega)).trans (h.tg.block k hk hk2 hk3)⟩, h.row, h.new⟩
set_option maxHeartbeats 8000000 in
theorem pairs_any (w : World) (base gp : Nat) (doc : Int) (g off n cap : Nat) (L : List Tk) (q : Nat) (v : Value) (os : List Nx) (t0 : Tk) (d : Int) (f : Nat) (hdf : d + 1 + (f : Int) = 17) (d0 : 0 ≤ d) (h : Gs w base gp doc g off n cap L q v os) (h2 : t0.kd = 3) (hC : BlkC base gp doc g off n cap L f (d + 1)) :
    Calls Try.prog 46 #[.pointer (some ⟨gp, 0, none⟩), .int .i64 t0.col, .int .i64 d] w (LiE w base gp doc g off n cap L v os (lpM (valM (blkM L f) (decide (f = 0)) L) L t0 (L.length - q) [] q os.length)) := by
  obtain ⟨R, hR⟩ : ∃ R, lpM (valM (blkM L f) (decide (f = 0)) L) L t0 (L.length - q) [] q os.length = R := ⟨_, rfl⟩
  rw [hR]
  have HR := hideL hR
  have HG := hideL h
  have HC := hideL hC
  have HO : Hid (∀ x ∈ os, ∀ r, x.kv.ownBlock = some r → r < w.heap.size) := fun x hx r hr => ((h.own.kids x hx).1.lt r hr).2
  obtain ⟨i3, hi3, hy0, hy1, hy2⟩ := info_parts Try.info3
  have hlen := h.len
  have HBW := hideL h.bw
  have dw : IntKind.i64.wrap (d + 1) = d + 1 := by rw [IntKind.wrap_i64]; omega
  have hmm := @run_makeMap Try.prog
  clear hR h hC
  go_enter Try.func46, Try.ntmps46
  go_wp2_with (fail)
  go_loopw [7] (fun u7 wr => ∃ (ts : List Tr) (q2 : Nat) (v2 : Value) (ns : List Nx) (k : Nat) (D : DataW Unit), Li w wr base gp doc g off n cap L v os ts u7 q2 v2 ns ∧ wr.ownsMap Try.prog 9 Rz w.heap.size ts.length D ∧ KS D (ts.map Tr.key) ∧ n - q2 ≤ k ∧ lpM (valM (blkM L f) (decide (f = 0)) L) L t0 k ts q2 (os.length + sizes ts) = R) (fun _ wr => gLen gp wr)
  case atStart => exact ⟨[], q, v, [], L.length - q, _, (Li.start HG.out).turn (by rw [List.append_nil]; exact HG.out.below ((Below.refl _ w).alloc (Nat.le_refl _) _)) (But.of_below ((Below.refl _ w).alloc (Nat.le_refl _) _)), World.ownsMap_made (H := Unit) w Try.prog 9 Rz, KS.nil, by omega, by simpa [sizes] using HR.out⟩
  case round =>
    obtain ⟨ts, q2, v2, ns, k, D, hli, hmp, hks, hk, hRk⟩ := hrel
    have HLI := hideL hli
    have HRK := hideL hRk
    have HKS := hideL hks
    obtain ⟨ka, kc, rfl, _, hKc, hkm⟩ := own_form hli.kids
    obtain ⟨K, hK⟩ : ∃ K, ts.length = K := ⟨_, rfl⟩
    rw [hK] at hKc hmp ⊢
    have HKL := hideL hK
    have HMP := hideL hmp
    clear hmm
    cases hnx : nxB L q2 3 t0.col with
    | false =>
      have hI := isNext_any wr base gp doc g off n cap L q2 v2 (os ++ ns) 3 t0.col hli.gs
      rw [hnx] at hI
      have HE : Hid (LiE w base gp doc g off n cap L v os R (.returned (.slice ka K kc)) wr) := by
        have he := lpM_end (V := valM (blkM L f) (decide (f = 0)) L) (L := L) (t0 := t0) (k := k) (q := q2) (made := os.length + sizes ts) (acc := ts) (by rw [h2]; exact nxB_none hnx)
        rw [HRK.out] at he
        subst he
        exact ⟨rfl, .slice ka K kc, v2, ns, rfl, by rw [← HKL.out]; exact HLI.out⟩
      clear hli hRk hK hnx hmp hks
      go_wp2_with (go_at_call 52; refine hI.mono ?_; rintro e w1 ⟨rfl, rfl⟩)
      go_ret
      exact HE.out
    | true =>
      obtain ⟨u, hu, hu2, huc⟩ := nxB_some hnx
      have hI := isNext_any wr base gp doc g off n cap L q2 v2 (os ++ ns) 3 t0.col hli.gs
      rw [hnx] at hI
      have hq2 : q2 < n := by have := (List.getElem?_eq_some_iff.1 hu).1; omega
      have hT := take_any wr base gp doc g off n cap L q2 v2 (os ++ ns) u hli.gs hq2 hu
      have HU := hideL (And.intro hu (And.intro hu2 huc))
      have HTXS : Hid (u.tx.size ≤ 281474976710656) := hli.gs.str u (List.mem_of_getElem? hu)
      obtain ⟨va, vc, hv, _, hMc, hvm⟩ := own_form hli.gs.own.row
      subst hv
      obtain ⟨M, hM⟩ : ∃ M, (os ++ ns).length = M := ⟨_, rfl⟩
      have HM := hideL hM
      have HML : Hid (M = os.length + sizes ts) := by show _ = _; rw [← hM]; exact hli.lens
      have hM4 : M ≤ 4096 := by rw [← hM]; exact hli.gs.few
      have hKM : K ≤ M := by have := len_sizes ts; have := HML.out; omega
      rw [hM] at hT hMc
      have HUS : Hid (u.kd = 2 ∨ u.kd = 3) := .inr hu2
      have HWS : Hid (∀ r, (Value.slice ka K kc).ownBlock = some r → r < wr.heap.size) := fun r hr => by
        have h1 := hli.kids
        rw [hK] at h1
        exact (h1.lt r hr).2
      obtain ⟨kd, line, col, tx, quo⟩ := u
      unfold tokV at hT
      dsimp only at *
      have hKm : K + 1 ≤ maxLen := by unfold maxLen; omega
      have hKx : K < maxLen := by unfold maxLen; omega
      have hKb : (K + 1) * 8 ≤ 140737488355328 := by omega
      have hkey := Go.WideMaps.keyOf_string_mk (P := Try.prog) Try.underlying9 (s := tx) (by have := HTXS.out; unfold maxLen; omega)
      clear hli hRk hK hnx hu hu2 huc hM hmp hks
      cases hhas : Go.Maps.has D (Lit.string tx.data.toList) with
      | true =>
        have htw : (⟨kd, line, col, tx, quo⟩ : Tk).kd = 3 ∧ ∃ x ∈ ts, x.key = (⟨kd, line, col, tx, quo⟩ : Tk).tx := by
          refine ⟨HU.out.2.1, ?_⟩
          have := (HKS.out.has tx).1 hhas
          obtain ⟨x, hx, e⟩ := List.mem_map.1 this
          exact ⟨x, hx, e⟩
        have HTW := hideL htw
        clear htw
        go_wp2_with (first
          | (go_at_call 52; refine hI.mono ?_; rintro e w1 ⟨rfl, rfl⟩)
          | (go_at_call 45; refine hT.mono ?_; rintro e w2 ⟨rfl, hg2, hb2⟩; have HLI2 : Hid (Li w ((w2.alloc (.cells #[.int .i64 kd, .int .i64 line, .int .i64 col, .string tx, .bool quo] 39)).alloc (.cells #[] 97)) base gp doc g off n cap L v os ts (.slice ka K kc) (q2 + 1) (.slice va M vc) ns) := (by have h1 := HLI.out; rw [HKL.out, HM.out] at h1; exact h1.turn (hg2.below (two_alloc _ _ _)) (hb2.trans (But.of_below (two_alloc _ _ _)))); have HB2 := hideL hb2; have HMP2 : Hid ((w2.alloc (.cells #[.int .i64 kd, .int .i64 line, .int .i64 col, .string tx, .bool quo] 39)).ownsMap Try.prog 9 Rz w.heap.size K D) := ((mp_keep HMP.out (hb2.block _ HMP.out.lt (by have := HG.out.gplt; have := HBW.out; omega))).alloc _); have HMP3 : Hid (((w2.alloc (.cells #[.int .i64 kd, .int .i64 line, .int .i64 col, .string tx, .bool quo] 39)).alloc (.cells #[] 97)).ownsMap Try.prog 9 Rz w.heap.size K D) := HMP2.out.alloc _; obtain ⟨vz, ps, hlk, hrz⟩ := HMP2.out.look_ok (Go.Maps.string_keyed Try.underlying9) Try.underlying96 (zero97 _) rfl hkey; have hvz := rz_inv hrz; subst hvz; rw [hhas] at hlk; clear hg2 hb2 hrz))
        have hg := giveUp_any _ base gp doc g off n cap L (q2 + 1) (.slice va M vc) (os ++ ns) ⟨kd, line, col, tx, quo⟩ 91 HLI2.out.gs
        unfold tokV at hg
        dsimp only at hg
        refine hg.mono ?_
        clear hg
        rintro e w3 ⟨he, hb3⟩
        obtain ⟨k1, hk1⟩ : ∃ k1, k = k1 + 1 := ⟨k - 1, by omega⟩
        have HE : Hid (LiE w base gp doc g off n cap L v os R (wrongE doc line 91) w3) := by
          have h1 := HRK.out
          rw [hk1, lpM_twice HU.out.1 (HU.out.2.1.trans h2.symm) HU.out.2.2 HTW.out] at h1
          show LiE _ _ _ _ _ _ _ _ _ _ _ _ _ _
          rw [← h1]
          exact ⟨rfl, HLI2.out.tg.trans (Tg.of_below gp (.slice va M vc) hb3) HLI2.out.row⟩
        clear hb3
        unfold wrongE at he HE
        subst he
        exact ⟨rfl, HE.out⟩
      | false =>
        have hun : ¬ ((⟨kd, line, col, tx, quo⟩ : Tk).kd = 3 ∧ ∃ x ∈ ts, x.key = (⟨kd, line, col, tx, quo⟩ : Tk).tx) := by
          rintro ⟨_, x, hx, e⟩
          have : tx ∈ ts.map Tr.key := List.mem_map.2 ⟨x, hx, e⟩
          have := (HKS.out.has tx).2 this
          have e2 : Go.Maps.has D (litK tx) = false := hhas
          rw [this] at e2
          cases e2
        have HUN := hideL hun
        clear hun
        go_wp2_with (first
          | (go_at_call 52; refine hI.mono ?_; rintro e w1 ⟨rfl, rfl⟩)
          | (go_at_call 45; refine hT.mono ?_; rintro e w2 ⟨rfl, hg2, hb2⟩; have HLI2 : Hid (Li w ((w2.alloc (.cells #[.int .i64 kd, .int .i64 line, .int .i64 col, .string tx, .bool quo] 39)).alloc (.cells #[] 97)) base gp doc g off n cap L v os ts (.slice ka K kc) (q2 + 1) (.slice va M vc) ns) := (by have h1 := HLI.out; rw [HKL.out, HM.out] at h1; exact h1.turn (hg2.below (two_alloc _ _ _)) (hb2.trans (But.of_below (two_alloc _ _ _)))); have HB2 := hideL hb2; have HMP2 : Hid ((w2.alloc (.cells #[.int .i64 kd, .int .i64 line, .int .i64 col, .string tx, .bool quo] 39)).ownsMap Try.prog 9 Rz w.heap.size K D) := ((mp_keep HMP.out (hb2.block _ HMP.out.lt (by have := HG.out.gplt; have := HBW.out; omega))).alloc _); have HMP3 : Hid (((w2.alloc (.cells #[.int .i64 kd, .int .i64 line, .int .i64 col, .string tx, .bool quo] 39)).alloc (.cells #[] 97)).ownsMap Try.prog 9 Rz w.heap.size K D) := HMP2.out.alloc _; obtain ⟨vz, ps, hlk, hrz⟩ := HMP2.out.look_ok (Go.Maps.string_keyed Try.underlying9) Try.underlying96 (zero97 _) rfl hkey; have hvz := rz_inv hrz; subst hvz; rw [hhas] at hlk; clear hg2 hb2 hrz)
          | (at_mapUpdate; refine wpList_mapUpdate_own _ rfl _ _ _ 96 rfl 9 97 (Go.Maps.string_keyed Try.underlying9) Try.underlying96 _ w.heap.size K D rfl HMP3.out hKx _ _ _ rfl rfl hkey .nil [] rfl ?_; intro w3 hownm hgrowm; have HMP4 := hideL hownm; have HLI3 := hideL (HLI2.out.mapped HMP3.out (Nat.le_refl _) HBW.out hgrowm); have HM3S := hideL hgrowm.size; have c3 : w3.cell? ⟨gp, 2, none⟩ = some (.slice va M vc) := (by obtain ⟨oq, h1, _⟩ := HLI3.out.gs.blk; rw [cell_block h1]; rfl); have hb3 : w3.heap[w2.heap.size]? = some (.cells #[.int .i64 kd, .int .i64 line, .int .i64 col, .string tx, .bool quo] 39 (0, 0)) := (by rw [hgrowm.block w2.heap.size (by simp; omega) (fun e => by have e := Option.some.inj e; have := HMP.out.lt; have := HB2.out.size; omega), Below.heap_alloc _ _ _ (by simp)]; exact Go.heap_alloc_new _ _); have HB3 := hideL hb3; have HKA : Hid ((w3.alloc (Obj.cells #[.int .i64 M] 3)).ownsRow base 3 1 (.slice ka K kc) K (iV (starts ts os.length))) := (by have h1 := HLI3.out.kids; rw [HKL.out] at h1; exact h1.alloc _); have hwb : base ≤ (w3.alloc (Obj.cells #[.int .i64 M] 3)).heap.size := (by have := HLI3.out.gs.bw; simp; omega); clear hownm hgrowm hb3)
          | (at_builtin; refine wpList_append_at _ rfl (.tmp 33) (.tmp 39) 49 rfl base 3 i3 (.int .i64 0) 1 8 Try.underlying49 hi3 hy0 hy1 hy2 rfl (by decide) _ K (iV (starts ts os.length)) rfl HKA.out ⟨w3.heap.size, 0, none⟩ 1 1 [.int .i64 M] rfl rfl (World.news_of_block (Go.heap_alloc_new w3 _)) (by intro u hu; simp at hu; subst hu; rfl) hKm hKb hwb ?_; intro kv4 w4 hown4 hgrow4 hat4; have HN4 := hideL (HLI3.out.numbered HO.out hgrow4); have HW4 := hideL hown4; have HG4 := hideL hgrow4; have HA4 := hideL hat4; obtain ⟨k4, c4, rfl, _⟩ := own_form hown4; have HMP5 : Hid (w4.ownsMap Try.prog 9 Rz w.heap.size (K + 1) (D.put (litK tx) .nil)) := (HMP4.out.alloc _).kept hgrow4 (fun e => by have := mp_ne HMP4.out (by have h1 := HLI3.out.kids; rw [HKL.out] at h1; exact h1); exact this e.symm); have hb4 : w4.heap[w2.heap.size]? = some (.cells #[.int .i64 kd, .int .i64 line, .int .i64 col, .string tx, .bool quo] 39 (0, 0)) := (by rw [hgrow4.block w2.heap.size (by have := (Array.getElem?_eq_some_iff.1 HB3.out).1; simp; omega) (fun e => by have := HWS.out _ e.symm; have := HB2.out.size; omega), Below.heap_alloc _ _ _ (Array.getElem?_eq_some_iff.1 HB3.out).1]; exact HB3.out); obtain ⟨⟨s0, s1, s2, s3, s4⟩, -⟩ := cells5 hb4; clear hown4 hgrow4 hat4 hb4))
        have hv := gvalue_any w4 base gp doc g off n cap L (q2 + 1) (.slice va M vc) (os ++ ns) ⟨kd, line, col, tx, quo⟩ tx (d + 1) f hdf HN4.out.1 HUS.out HTXS.out HC.out
        rw [HM.out] at hv
        obtain ⟨rv, hrv⟩ : ∃ rv, valM (blkM L f) (decide (f = 0)) L ⟨kd, line, col, tx, quo⟩ (q2 + 1) M = rv := ⟨_, rfl⟩
        rw [hrv] at hv
        have HRV := hideL hrv
        unfold tokV at hv
        dsimp only at hv
        clear hrv
        refine hv.mono ?_
        clear hv
        intro e w5 hE
        obtain ⟨k1, hk1⟩ : ∃ k1, k = k1 + 1 := ⟨k - 1, by omega⟩
        cases rv with
        | ok tv q3 made3 =>
          obtain ⟨rfl, hmade, v4, ns2, hO4⟩ := hE
          rw [HM.out] at hmade hO4
          have HLI4 : Hid (Li w w5 base gp doc g off n cap L v os (ts ++ [tv.withKey tx]) (.slice k4 (K + 1) c4) q3 v4 (ns ++ ns2)) := by
            have h3 := HW4.out
            refine HLI3.out.more HO.out ?_ HG4.out HA4.out ?_
            · rw [HKL.out, ← HML.out]; exact h3
            · rw [← HML.out]; exact hO4
          have HMP6 : Hid (w5.ownsMap Try.prog 9 Rz w.heap.size (ts ++ [tv.withKey tx]).length (D.put (litK tx) .nil)) := by
            have h1 := mp_keep (w' := w5) HMP5.out (hO4.tg.block _ HMP5.out.lt (by have := HG.out.gplt; have := HBW.out; omega) (mp_ne HMP5.out (by have h2 := HN4.out.1.own.row; exact h2)))
            rw [List.length_append, HKL.out]
            exact h1
          have HKS6 : Hid (KS (D.put (litK tx) .nil) ((ts ++ [tv.withKey tx]).map Tr.key)) := by
            have := HKS.out.put tx
            rw [List.map_append]
            have e1 : [tv.withKey tx].map Tr.key = [tx] := by cases tv; rfl
            rw [e1]
            exact this
          have hqq : q2 + 1 ≤ q3 := valM_le (fun t q2 m2 h => blkM_le f _ _ t q2 m2 h) HRV.out
          have HR4 : Hid (lpM (valM (blkM L f) (decide (f = 0)) L) L t0 k1 (ts ++ [tv.withKey tx]) q3 (os.length + sizes (ts ++ [tv.withKey tx])) = R) := by
            have h1 := HRK.out
            have h4 := HRV.out
            rw [HML.out] at h4
            rw [hk1, lpM_step HU.out.1 (HU.out.2.1.trans h2.symm) HU.out.2.2 HUN.out h4] at h1
            have e1 : (if (⟨kd, line, col, tx, quo⟩ : Tk).kd = 3 then (⟨kd, line, col, tx, quo⟩ : Tk).tx else ByteArray.empty) = tx := if_pos HU.out.2.1
            rw [e1] at h1
            have e2 : os.length + sizes (ts ++ [tv.withKey tx]) = made3 := by
              rw [sizes_snoc, size_withKey, hmade, HML.out]; omega
            show _ = _
            rw [e2]
            exact h1
          have HMS : Hid (gLen gp w5 < gLen gp w1) := by
            have a1 := HLI4.out.gs.left
            have a2 := HLI.out.gs.left
            show _ < _
            rw [a1, a2]; omega
          clear hO4 hmade
          go_wp2_with (fail)
          go_roundw
          case rel => exact ⟨ts ++ [tv.withKey tx], q3, v4, ns ++ ns2, k1, _, HLI4.out, HMP6.out, HKS6.out, by omega, HR4.out⟩
          case measure => exact HMS.out
        | bad l er q3 made3 =>
          obtain ⟨he, htg⟩ := hE
          have HE : Hid (LiE w base gp doc g off n cap L v os R (wrongE doc l er) w5) := by
            have h1 := HRK.out
            have h4 := HRV.out
            rw [HML.out] at h4
            rw [hk1, lpM_bad HU.out.1 (HU.out.2.1.trans h2.symm) HU.out.2.2 HUN.out h4] at h1
            show LiE _ _ _ _ _ _ _ _ _ _ _ _ _ _
            rw [← h1]
            exact ⟨rfl, HN4.out.2.1.trans htg HLI3.out.row⟩
          clear htg
          unfold wrongE at he HE
          subst he
          exact ⟨rfl, HE.out⟩
end Go.Proofs.Ytgododijnogegaa
