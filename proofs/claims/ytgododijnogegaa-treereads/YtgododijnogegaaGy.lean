/-
  A grower takes a block, whole.
-/
import Derived.Test.YtgododijnogegaaGl
namespace Go.Proofs.Ytgododijnogegaa
open Go.RowKit
set_option linter.unusedVariables false
set_option linter.unusedSimpArgs false
set_option maxRecDepth 100000
set_option maxHeartbeats 4000000 in
theorem gblock_map (w : World) (base gp : Nat) (doc : Int) (g off n cap : Nat) (L : List Tk) (q : Nat) (v : Value) (os : List Nx) (t : Tk) (key : ByteArray) (d : Int) (f : Nat) (hdf : d + 1 + (f : Int) = 17) (d0 : 0 ≤ d) (h : Gs w base gp doc g off n cap L q v os) (ht : L[q]? = some t) (hkd : t.kd = 3) (hl : os.length < 4096) (hks : key.size ≤ 281474976710656) (hC : BlkC base gp doc g off n cap L f (d + 1)) :
    Calls Try.prog 36 #[.pointer (some ⟨gp, 0, none⟩), .string key, .int .i64 d] w (GwE w base gp doc g off n cap L v os key (blkM L (f + 1) q os.length)) := by
  rw [blkM_many ht (by omega) (by rw [hkd]; decide)]
  obtain ⟨oq, m, c, z1, m1, y0, y1, y2, y3, y4⟩ := h.bst ht
  obtain ⟨R, hR⟩ : ∃ R, lpM (valM (blkM L f) (decide (f = 0)) L) L t (L.length - q) [] q (os.length + 1) = R := ⟨_, rfl⟩
  rw [hR]
  have HB : Hid (∀ (A : Obj), Calls Try.prog 44 #[.pointer (some ⟨gp, 0, none⟩), tokV t, nodV 2 key ⟨#[]⟩ false, .int .i64 d] (w.alloc A) fun e w1 => e = .returned (.int .i64 os.length) ∧ w1.heap[w.heap.size]? = some A ∧ Tg w w1 gp v ∧ ∃ v1, (v1.ownBlock = v.ownBlock ∨ ∀ r, v1.ownBlock = some r → w.heap.size ≤ r) ∧ Calls Try.prog 46 #[.pointer (some ⟨gp, 0, none⟩), .int .i64 t.col, .int .i64 d] w1 (LiE w1 base gp doc g off n cap L v1 (os ++ [bareN 2 key ⟨#[]⟩ false t.line]) R)) := fun A => by
    have hb : Below w.heap.size w (w.alloc A) := (Below.refl _ w).alloc (Nat.le_refl _) _
    refine (begin_ok (w.alloc A) base gp doc g off n cap L q v os t 2 key ⟨#[]⟩ false d (h.below hb) (by omega) hl hks (by decide)).mono ?_
    rintro e w1 ⟨rfl, v1, hg, htg, hr⟩
    have hr' : v1.ownBlock = v.ownBlock ∨ ∀ r, v1.ownBlock = some r → w.heap.size ≤ r := by
      rcases hr with e | e
      · exact .inl e
      · exact .inr fun r h => Nat.le_trans hb.size (e r h)
    refine ⟨rfl, ?_, (Tg.of_below gp v hb).trans htg (.inl rfl), v1, hr', ?_⟩
    · rw [htg.block w.heap.size (by simp) (by have := h.gplt; have := h.bw; omega) (fun e => by have := (h.own.row.lt _ e).2; omega)]
      exact Go.heap_alloc_new _ _
    · have := pairs_any w1 base gp doc g off n cap L q v1 _ t d f hdf d0 hg hkd hC
      rw [List.length_append, List.length_singleton, hR] at this
      exact this
  have i2 : (0 : Int) < (m : Int) := by omega
  have hp0 : 0 < m := by omega
  have HLN := hideL hl
  have HF : Hid (t.kd = 2 → (if t.kd = 2 then (3 : Int) else 2) = 2) := fun e => by rw [hkd]; rfl
  have HF2 : Hid ((if t.kd = 2 then (3 : Int) else 2) = 2) := by show _ = _; rw [hkd]; rfl
  obtain ⟨kd, line, col, tx, quo⟩ := t
  unfold tokV nodV at HB
  dsimp only at *
  rw [HF2.out]
  subst hkd
  obtain ⟨N, hN⟩ : ∃ N, os.length = N := ⟨_, rfl⟩
  have HN := hideL hN
  have hN4 : N < 4096 := by omega
  rw [hN] at HB
  clear h ht hks hl hR HF HF2 hC hN
  go_enter Try.func36, Try.ntmps36
  go_wp2_with (go_at_call 44; refine (HB.out _).mono ?_; rintro e w1 ⟨rfl, hbx, htg, v1, hr1, hP⟩; have HTG := hideL (And.intro htg hr1); obtain ⟨⟨s0, s1, s2, s3, s4⟩, -⟩ := cells5 hbx; clear hbx htg hr1)
  refine hP.mono ?_
  clear hP
  intro e w2 hE
  cases R with
  | bad l er q3 made3 =>
    obtain ⟨he, hE2⟩ := hE
    have HE : Hid (GwE w base gp doc g off n cap L v os key (.bad l er q3 made3) (wrongE doc l er) w2) := ⟨rfl, HTG.out.1.trans hE2 HTG.out.2⟩
    clear hE2
    unfold wrongE at he HE
    subst he
    exact ⟨rfl, HE.out⟩
  | ok ts q3 made3 =>
    obtain ⟨hmade, kv, v2, ns, rfl, hli⟩ := hE
    have HLI := hideL hli
    have HMD := hideL hmade
    obtain ⟨ka, kc, rfl, _, hKc, hkm⟩ := own_form hli.kids
    have hlo : (os ++ [bareN 2 key ⟨#[]⟩ false line]).length = N + 1 := by rw [List.length_append, HN.out]; rfl
    have hlr := hli.gs.own.row
    rw [hli.lens, hlo] at hlr
    obtain ⟨b, hbv⟩ : ∃ b cp, v2 = .slice (some ⟨b, 0, none⟩) (N + 1 + sizes ts) cp := by
      obtain ⟨va, vc, hv, _⟩ := own_form hlr
      subst hv
      obtain ⟨b, rfl⟩ := own_some hlr (by omega)
      exact ⟨b, vc, rfl⟩
    obtain ⟨cp, rfl⟩ := hbv
    obtain ⟨M, hM⟩ : ∃ M, N + 1 + sizes ts = M := ⟨_, rfl⟩
    obtain ⟨K, hK⟩ : ∃ K, ts.length = K := ⟨_, rfl⟩
    have HD := hideL (Li.done (os := os) HLI.out (by rw [HN.out]))
    rw [HN.out, hM, hK] at HD
    rw [hM] at hlr
    have g2 : w2.cell? ⟨gp, 2, none⟩ = some (.slice (some ⟨b, 0, none⟩) M cp) := by
      obtain ⟨oq, h1, _⟩ := hli.gs.blk
      rw [cell_block h1, hM]; rfl
    have zc : w2.cell? ⟨b, N * 6 + 5, none⟩ = some (.slice none 0 0) := by
      rw [hlr.cellAt (N * 6 + 5) (by omega)]
      have := rowsN_at ((os ++ [bareN 2 key ⟨#[]⟩ false line]) ++ ns) N (bareN 2 key ⟨#[]⟩ false line) (by rw [← HN.out]; simp) 5 (.slice none 0 0) rfl
      exact this
    have zf : w2.frozen? ⟨b, N * 6 + 5, none⟩ = false := hlr.frozenAt (N * 6 + 5)
    have hNM : (N : Int) < (M : Int) := by omega
    have hN0 : (0 : Int) ≤ (N : Int) := by omega
    have HSZ := hideL (And.intro hM (And.intro hlo hK))
    rw [hK]
    clear hli hlr hmade hlo hM hK
    go_wp2_with (fail)
    go_end0
    refine ⟨rfl, ?_, _, _, HD.out.1, ?_, HTG.out.1.trans HD.out.2.2.1 HTG.out.2, ?_, fun o ho r hr => Nat.le_trans HTG.out.1.size (HD.out.2.2.2 o ho r hr)⟩
    · have h1 := HMD.out
      rw [HSZ.out.2.1] at h1
      rw [h1, HN.out, Tr.size]; omega
    · rw [HD.out.2.1, HN.out]; rfl
    · have hrow := HLI.out.row
      rcases hrow with e | e
      · rcases HTG.out.2 with e2 | e2
        · exact .inl (e.trans e2)
        · refine .inr fun r hr => e2 r (e.symm.trans hr)
      · exact .inr fun r hr => Nat.le_trans HTG.out.1.size (e r hr)
set_option maxHeartbeats 4000000 in
theorem gblock_seq (w : World) (base gp : Nat) (doc : Int) (g off n cap : Nat) (L : List Tk) (q : Nat) (v : Value) (os : List Nx) (t : Tk) (key : ByteArray) (d : Int) (f : Nat) (hdf : d + 1 + (f : Int) = 17) (d0 : 0 ≤ d) (h : Gs w base gp doc g off n cap L q v os) (ht : L[q]? = some t) (hkd : t.kd = 2) (hl : os.length < 4096) (hks : key.size ≤ 281474976710656) (hC : BlkC base gp doc g off n cap L f (d + 1)) :
    Calls Try.prog 36 #[.pointer (some ⟨gp, 0, none⟩), .string key, .int .i64 d] w (GwE w base gp doc g off n cap L v os key (blkM L (f + 1) q os.length)) := by
  rw [blkM_many ht (by omega) (by rw [hkd]; decide)]
  obtain ⟨oq, m, c, z1, m1, y0, y1, y2, y3, y4⟩ := h.bst ht
  obtain ⟨R, hR⟩ : ∃ R, lpM (valM (blkM L f) (decide (f = 0)) L) L t (L.length - q) [] q (os.length + 1) = R := ⟨_, rfl⟩
  rw [hR]
  have HB : Hid (∀ (A : Obj), Calls Try.prog 44 #[.pointer (some ⟨gp, 0, none⟩), tokV t, nodV 3 key ⟨#[]⟩ false, .int .i64 d] (w.alloc A) fun e w1 => e = .returned (.int .i64 os.length) ∧ w1.heap[w.heap.size]? = some A ∧ Tg w w1 gp v ∧ ∃ v1, (v1.ownBlock = v.ownBlock ∨ ∀ r, v1.ownBlock = some r → w.heap.size ≤ r) ∧ Calls Try.prog 47 #[.pointer (some ⟨gp, 0, none⟩), .int .i64 t.col, .int .i64 d] w1 (LiE w1 base gp doc g off n cap L v1 (os ++ [bareN 3 key ⟨#[]⟩ false t.line]) R)) := fun A => by
    have hb : Below w.heap.size w (w.alloc A) := (Below.refl _ w).alloc (Nat.le_refl _) _
    refine (begin_ok (w.alloc A) base gp doc g off n cap L q v os t 3 key ⟨#[]⟩ false d (h.below hb) (by omega) hl hks (by decide)).mono ?_
    rintro e w1 ⟨rfl, v1, hg, htg, hr⟩
    have hr' : v1.ownBlock = v.ownBlock ∨ ∀ r, v1.ownBlock = some r → w.heap.size ≤ r := by
      rcases hr with e | e
      · exact .inl e
      · exact .inr fun r h => Nat.le_trans hb.size (e r h)
    refine ⟨rfl, ?_, (Tg.of_below gp v hb).trans htg (.inl rfl), v1, hr', ?_⟩
    · rw [htg.block w.heap.size (by simp) (by have := h.gplt; have := h.bw; omega) (fun e => by have := (h.own.row.lt _ e).2; omega)]
      exact Go.heap_alloc_new _ _
    · have := items_any w1 base gp doc g off n cap L q v1 _ t d f hdf d0 hg hkd hC
      rw [List.length_append, List.length_singleton, hR] at this
      exact this
  have i2 : (0 : Int) < (m : Int) := by omega
  have hp0 : 0 < m := by omega
  have HLN := hideL hl
  have HF : Hid (t.kd = 2 → (if t.kd = 2 then (3 : Int) else 2) = 3) := fun e => by rw [hkd]; rfl
  have HF2 : Hid ((if t.kd = 2 then (3 : Int) else 2) = 3) := by show _ = _; rw [hkd]; rfl
  obtain ⟨kd, line, col, tx, quo⟩ := t
  unfold tokV nodV at HB
  dsimp only at *
  rw [HF2.out]
  subst hkd
  obtain ⟨N, hN⟩ : ∃ N, os.length = N := ⟨_, rfl⟩
  have HN := hideL hN
  have hN4 : N < 4096 := by omega
  rw [hN] at HB
  clear h ht hks hl hR HF HF2 hC hN
  go_enter Try.func36, Try.ntmps36
  go_wp2_with (go_at_call 44; refine (HB.out _).mono ?_; rintro e w1 ⟨rfl, hbx, htg, v1, hr1, hP⟩; have HTG := hideL (And.intro htg hr1); obtain ⟨⟨s0, s1, s2, s3, s4⟩, -⟩ := cells5 hbx; clear hbx htg hr1)
  refine hP.mono ?_
  clear hP
  intro e w2 hE
  cases R with
  | bad l er q3 made3 =>
    obtain ⟨he, hE2⟩ := hE
    have HE : Hid (GwE w base gp doc g off n cap L v os key (.bad l er q3 made3) (wrongE doc l er) w2) := ⟨rfl, HTG.out.1.trans hE2 HTG.out.2⟩
    clear hE2
    unfold wrongE at he HE
    subst he
    exact ⟨rfl, HE.out⟩
  | ok ts q3 made3 =>
    obtain ⟨hmade, kv, v2, ns, rfl, hli⟩ := hE
    have HLI := hideL hli
    have HMD := hideL hmade
    obtain ⟨ka, kc, rfl, _, hKc, hkm⟩ := own_form hli.kids
    have hlo : (os ++ [bareN 3 key ⟨#[]⟩ false line]).length = N + 1 := by rw [List.length_append, HN.out]; rfl
    have hlr := hli.gs.own.row
    rw [hli.lens, hlo] at hlr
    obtain ⟨b, hbv⟩ : ∃ b cp, v2 = .slice (some ⟨b, 0, none⟩) (N + 1 + sizes ts) cp := by
      obtain ⟨va, vc, hv, _⟩ := own_form hlr
      subst hv
      obtain ⟨b, rfl⟩ := own_some hlr (by omega)
      exact ⟨b, vc, rfl⟩
    obtain ⟨cp, rfl⟩ := hbv
    obtain ⟨M, hM⟩ : ∃ M, N + 1 + sizes ts = M := ⟨_, rfl⟩
    obtain ⟨K, hK⟩ : ∃ K, ts.length = K := ⟨_, rfl⟩
    have HD := hideL (Li.done (os := os) HLI.out (by rw [HN.out]))
    rw [HN.out, hM, hK] at HD
    rw [hM] at hlr
    have g2 : w2.cell? ⟨gp, 2, none⟩ = some (.slice (some ⟨b, 0, none⟩) M cp) := by
      obtain ⟨oq, h1, _⟩ := hli.gs.blk
      rw [cell_block h1, hM]; rfl
    have zc : w2.cell? ⟨b, N * 6 + 5, none⟩ = some (.slice none 0 0) := by
      rw [hlr.cellAt (N * 6 + 5) (by omega)]
      have := rowsN_at ((os ++ [bareN 3 key ⟨#[]⟩ false line]) ++ ns) N (bareN 3 key ⟨#[]⟩ false line) (by rw [← HN.out]; simp) 5 (.slice none 0 0) rfl
      exact this
    have zf : w2.frozen? ⟨b, N * 6 + 5, none⟩ = false := hlr.frozenAt (N * 6 + 5)
    have hNM : (N : Int) < (M : Int) := by omega
    have hN0 : (0 : Int) ≤ (N : Int) := by omega
    have HSZ := hideL (And.intro hM (And.intro hlo hK))
    rw [hK]
    clear hli hlr hmade hlo hM hK
    go_wp2_with (fail)
    go_end0
    refine ⟨rfl, ?_, _, _, HD.out.1, ?_, HTG.out.1.trans HD.out.2.2.1 HTG.out.2, ?_, fun o ho r hr => Nat.le_trans HTG.out.1.size (HD.out.2.2.2 o ho r hr)⟩
    · have h1 := HMD.out
      rw [HSZ.out.2.1] at h1
      rw [h1, HN.out, Tr.size]; omega
    · rw [HD.out.2.1, HN.out]; rfl
    · have hrow := HLI.out.row
      rcases hrow with e | e
      · rcases HTG.out.2 with e2 | e2
        · exact .inl (e.trans e2)
        · refine .inr fun r hr => e2 r (e.symm.trans hr)
      · exact .inr fun r hr => Nat.le_trans HTG.out.1.size (e r hr)
/-- a grower's block, at every depth -/
theorem gblock_any (base gp : Nat) (doc : Int) (g off n cap : Nat) (L : List Tk) : ∀ (f : Nat) (d : Int), d + (f : Int) = 17 → 1 ≤ d → BlkC base gp doc g off n cap L f d := by
  intro f
  induction f with
  | zero =>
    intro d hd hd1 w q v os key h hks ⟨t, ht, hkd⟩
    have e : blkM L 0 q os.length = .bad t.line 92 q os.length := by rw [blkM, ht]
    rw [e]
    exact block_dead w base gp doc g off n cap L q v os t key d h ht hkd (.inl (by omega))
  | succ f ih =>
    intro d hd hd1 w q v os key h hks ⟨t, ht, hkd⟩
    have hC := ih (d + 1) (by omega) (by omega)
    by_cases hm : os.length = 4096
    · have e : blkM L (f + 1) q os.length = .bad t.line 92 q os.length := by
        rw [blkM, ht]
        dsimp only
        rw [if_pos hm]
      rw [e]
      exact block_dead w base gp doc g off n cap L q v os t key d h ht hkd (.inr hm)
    have hl : os.length < 4096 := by have := h.few; omega
    by_cases h4 : t.kd = 4
    · have e : blkM L (f + 1) q os.length = .ok (.node 1 ByteArray.empty t.tx t.quo t.line []) (q + 1) (os.length + 1) := by
        rw [blkM, ht]
        dsimp only
        rw [if_neg hm, if_pos h4]
      rw [e]
      exact block_leaf w base gp doc g off n cap L q v os t key d h ht h4 (by omega) hl hks
    by_cases h3 : t.kd = 3
    · exact gblock_map w base gp doc g off n cap L q v os t key d f (by omega) (by omega) h ht h3 hl hks hC
    · exact gblock_seq w base gp doc g off n cap L q v os t key d f (by omega) (by omega) h ht (by omega) hl hks hC
end Go.Proofs.Ytgododijnogegaa
