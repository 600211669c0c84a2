import Derived.Test.YtmmnpnhffgpchaaGreatDoorBn30
import Derived.Test.YtmmnpnhffgpchaaGreatDoorBn29
/-
  A grower takes a block, whole.
-/
namespace Go.Proofs.YtmmnpnhffgpchaaGreatDoor
open Go.RowKit
set_option linter.unusedVariables false
set_option linter.unusedSimpArgs false
set_option maxRecDepth 100000
set_option maxHeartbeats 4000000 in
theorem gblock_map (w : World) (base gp : Nat) (doc : Int) (g off n cap : Nat) (L : List Tk) (q : Nat) (v : Value) (os : List Nx) (t : Tk) (key : ByteArray) (d : Int) (f : Nat) (hdf : d + 1 + (f : Int) = 17) (d0 : 0 ≤ d) (h : Gs w base gp doc g off n cap L q v os) (ht : L[q]? = some t) (hkd : t.kd = 3) (hl : os.length < 4096) (hks : key.size ≤ 281474976710656) (hC : BlkC base gp doc g off n cap L f (d + 1)) :
    Calls Tryz.prog 31 #[.pointer (some ⟨gp, 0, none⟩), .string key, .int .i64 d] w (GwE w base gp doc g off n cap L v os key (blkM L (f + 1) q os.length)) := by
  rw [blkM_many ht (by omega) (by rw [hkd]; decide)]
  obtain ⟨oq, m, c, z1, m1, y0, y1, y2, y3, y4⟩ := h.bst ht
  obtain ⟨R, hR⟩ : ∃ R, lpM (valM (blkM L f) (decide (f = 0)) L) L t (L.length - q) [] q (os.length + 1) = R := ⟨_, rfl⟩
  rw [hR]
  have HB : Hid (∀ (A : Obj), Calls Tryz.prog 53 #[.pointer (some ⟨gp, 0, none⟩), tokV t, nodV 2 key ⟨#[]⟩ false, .int .i64 d] (w.alloc A) fun e w1 => e = .returned (.int .i64 os.length) ∧ w1.heap[w.heap.size]? = some A ∧ Tg w w1 gp v ∧ ∃ v1, (v1.ownBlock = v.ownBlock ∨ ∀ r, v1.ownBlock = some r → w.heap.size ≤ r) ∧ Calls Tryz.prog 55 #[.pointer (some ⟨gp, 0, none⟩), .int .i64 t.col, .int .i64 d] w1 (LiE w1 base gp doc g off n cap L v1 (os ++ [bareN 2 key ⟨#[]⟩ false t.line]) R)) := fun A => by
    have hb : Below w.heap.size w (w.alloc A) := (Below.refl _ w).alloc (Nat.le_refl _) _
    refine (begin_ok (w.alloc A) base gp doc g off n cap L q v os t 2 key ⟨#[]⟩ false d (h.below hb) (by omega) hl hks (by decide)).mono ?_
    rintro e w1 ⟨rfl, v1, hg, htg, hr⟩
    have hr' : v1.ownBlock = v.ownBlock ∨ ∀ r, v1.ownBlock = some r → w.heap.size ≤ r := by
      rcases hr with e | e
      · exact .inl e
      · exact .inr fun r h => Nat.le_trans hb.size (e r h)
    refine ⟨rfl, ?_, (Tg.of_below gp v hb).trans htg (.inl rfl), v1, hr', ?_⟩
    · rw [htg.block w.heap.size (by simp) (by have := h.gplt; have := h.bw; omega) (fun e => by have := (h.own.row.lt _ e).2; omega)]
      exact Go.heap_alloc_new _ _
    · have := pairs_any w1 base gp doc g off n cap L q v1 _ t d f hdf d0 hg hkd hC
      rw [List.length_append, List.length_singleton, hR] at this
      exact this
  have i2 : (0 : Int) < (m : Int) := by omega
  have hp0 : 0 < m := by omega
  have HLN := hideL hl
  have HF : Hid (t.kd = 2 → (if t.kd = 2 then (3 : Int) else 2) = 2) := fun e => by rw [hkd]; rfl
  have HF2 : Hid ((if t.kd = 2 then (3 : Int) else 2) = 2) := by show _ = _; rw [hkd]; rfl
  obtain ⟨kd, line, col, tx, quo⟩ := t
  unfold tokV nodV at HB
  dsimp only at *
  rw [HF2.out]
  subst hkd
  obtain ⟨N, hN⟩ : ∃ N, os.length = N := ⟨_, rfl⟩
  have HN := hideL hN
  have hN4 : N < 4096 := by omega
  rw [hN] at HB
  clear h ht hks hl hR HF HF2 hC hN
  go_enter Tryz.func31, Tryz.ntmps31
  go_wp2_with (go_at_call 53; refine (HB.out _).mono ?_; rintro e w1 ⟨rfl, hbx, htg, v1, hr1, hP⟩; have HTG := hideL (And.intro htg hr1); obtain ⟨⟨s0, s1, s2, s3, s4⟩, -⟩ := cells5 hbx; clear hbx htg hr1)
  refine hP.mono ?_
  clear hP
  intro e w2 hE
  cases R with
  | bad l er q3 made3 =>
    obtain ⟨he, hE2⟩ := hE
    have HE : Hid (GwE w base gp doc g off n cap L v os key (.bad l er q3 made3) (wrongE doc l er) w2) := ⟨rfl, HTG.out.1.trans hE2 HTG.out.2⟩
    clear hE2
    unfold wrongE at he HE
    subst he
    exact ⟨rfl, HE.out⟩
  | ok ts q3 made3 =>
    obtain ⟨hmade, kv, v2, ns, rfl, hli⟩ := hE
    have HLI := hideL hli
    have HMD := hideL hmade
    obtain ⟨ka, kc, rfl, _, hKc, hkm⟩ := own_form hli.kids
    have hlo : (os ++ [bareN 2 key ⟨#[]⟩ false line]).length = N + 1 := by rw [List.length_append, HN.out]; rfl
    have hlr := hli.gs.own.row
    rw [hli.lens, hlo] at hlr
    obtain ⟨b, hbv⟩ : ∃ b cp, v2 = .slice (some ⟨b, 0, none⟩) (N + 1 + sizes ts) cp := by
      obtain ⟨va, vc, hv, _⟩ := own_form hlr
      subst hv
      obtain ⟨b, rfl⟩ := own_some hlr (by omega)
      exact ⟨b, vc, rfl⟩
    obtain ⟨cp, rfl⟩ := hbv
    obtain ⟨M, hM⟩ : ∃ M, N + 1 + sizes ts = M := ⟨_, rfl⟩
    obtain ⟨K, hK⟩ : ∃ K, ts.length = K := ⟨_, rfl⟩
    have HD := hideL (Li.done (os := os) HLI.out (by rw [HN.out]))
    rw [HN.out, hM, hK] at HD
    rw [hM] at hlr
    have g2 : w2.cell? ⟨gp, 2, none⟩ = some (.slice (some ⟨b, 0, none⟩) M cp) := by
      obtain ⟨oq, h1, _⟩ := hli.gs.blk
      rw [cell_block h1, hM]; rfl
    have zc : w2.cell? ⟨b, N * 6 + 5, none⟩ = some (.slice none 0 0) := by
      rw [hlr.cellAt (N * 6 + 5) (by omega)]
      have := rowsN_at ((os ++ [bareN 2 key ⟨#[]⟩ false line]) ++ ns) N (bareN 2 key ⟨#[]⟩ false line) (by rw [← HN.out]; simp) 5 (.slice none 0 0) rfl
      exact this
    have zf : w2.frozen? ⟨b, N * 6 + 5, none⟩ = false := hlr.frozenAt (N * 6 + 5)
    have hNM : (N : Int) < (M : Int) := by omega
    have hN0 : (0 : Int) ≤ (N : Int) := by omega
    have HSZ := hideL (And.intro hM (And.intro hlo hK))
    rw [hK]
    clear hli hlr hmade hlo hM hK
    go_wp2_with (fail)
    go_end0
    refine ⟨rfl, ?_, _, _, HD.out.1, ?_, HTG.out.1.trans HD.out.2.2.1 HTG.out.2, ?_, fun o ho r hr => Nat.le_trans HTG.out.1.size (HD.out.2.2.2 o ho r hr)⟩
    · have h1 := HMD.out
      rw [HSZ.out.2.1] at h1
      rw [h1, HN.out, Tr.size]; omega
    · rw [HD.out.2.1, HN.out]; rfl
    · have hrow := HLI.out.row
      rcases hrow with e | e
      · rcases HTG.out.2 with e2 | e2
        · exact .inl (e.trans e2)
        · refine .inr fun r hr => e2 r (e.symm.trans hr)
      · exact .inr fun r hr => Nat.le_trans HTG.out.1.size (e r hr)
set_option maxHeartbeats 4000000 in
theorem gblock_seq (w : World) (base gp : Nat) (doc : Int) (g off n cap : Nat) (L : List Tk) (q : Nat) (v : Value) (os : List Nx) (t : Tk) (key : ByteArray) (d : Int) (f : Nat) (hdf : d + 1 + (f : Int) = 17) (d0 : 0 ≤ d) (h : Gs w base gp doc g off n cap L q v os) (ht : L[q]? = some t) (hkd : t.kd = 2) (hl : os.length < 4096) (hks : key.size ≤ 281474976710656) (hC : BlkC base gp doc g off n cap L f (d + 1)) :
    Calls Tryz.prog 31 #[.pointer (some ⟨gp, 0, none⟩), .string key, .int .i64 d] w (GwE w base gp doc g off n cap L v os key (blkM L (f + 1) q os.length)) := by
  rw [blkM_many ht (by omega) (by rw [hkd]; decide)]
  obtain ⟨oq, m, c, z1, m1, y0, y1, y2, y3, y4⟩ := h.bst ht
  obtain ⟨R, hR⟩ : ∃ R, lpM (valM (blkM L f) (decide (f = 0)) L) L t (L.length - q) [] q (os.length + 1) = R := ⟨_, rfl⟩
  rw [hR]
  have HB : Hid (∀ (A : Obj), Calls Tryz.prog 53 #[.pointer (some ⟨gp, 0, none⟩), tokV t, nodV 3 key ⟨#[]⟩ false, .int .i64 d] (w.alloc A) fun e w1 => e = .returned (.int .i64 os.length) ∧ w1.heap[w.heap.size]? = some A ∧ Tg w w1 gp v ∧ ∃ v1, (v1.ownBlock = v.ownBlock ∨ ∀ r, v1.ownBlock = some r → w.heap.size ≤ r) ∧ Calls Tryz.prog 56 #[.pointer (some ⟨gp, 0, none⟩), .int .i64 t.col, .int .i64 d] w1 (LiE w1 base gp doc g off n cap L v1 (os ++ [bareN 3 key ⟨#[]⟩ false t.line]) R)) := fun A => by
    have hb : Below w.heap.size w (w.alloc A) := (Below.refl _ w).alloc (Nat.le_refl _) _
    refine (begin_ok (w.alloc A) base gp doc g off n cap L q v os t 3 key ⟨#[]⟩ false d (h.below hb) (by omega) hl hks (by decide)).mono ?_
    rintro e w1 ⟨rfl, v1, hg, htg, hr⟩
    have hr' : v1.ownBlock = v.ownBlock ∨ ∀ r, v1.ownBlock = some r → w.heap.size ≤ r := by
      rcases hr with e | e
      · exact .inl e
      · exact .inr fun r h => Nat.le_trans hb.size (e r h)
    refine ⟨rfl, ?_, (Tg.of_below gp v hb).trans htg (.inl rfl), v1, hr', ?_⟩
    · rw [htg.block w.heap.size (by simp) (by have := h.gplt; have := h.bw; omega) (fun e => by have := (h.own.row.lt _ e).2; omega)]
      exact Go.heap_alloc_new _ _
    · have := items_any w1 base gp doc g off n cap L q v1 _ t d f hdf d0 hg hkd hC
      rw [List.length_append, List.length_singleton, hR] at this
      exact this
  have i2 : (0 : Int) < (m : Int) := by omega
  have hp0 : 0 < m := by omega
  have HLN := hideL hl
  have HF : Hid (t.kd = 2 → (if t.kd = 2 then (3 : Int) else 2) = 3) := fun e => by rw [hkd]; rfl
  have HF2 : Hid ((if t.kd = 2 then (3 : Int) else 2) = 3) := by show _ = _; rw [hkd]; rfl
  obtain ⟨kd, line, col, tx, quo⟩ := t
  unfold tokV nodV at HB
  dsimp only at *
  rw [HF2.out]
  subst hkd
  obtain ⟨N, hN⟩ : ∃ N, os.length = N := ⟨_, rfl⟩
  have HN := hideL hN
  have hN4 : N < 4096 := by omega
  rw [hN] at HB
  clear h ht hks hl hR HF HF2 hC hN
  go_enter Tryz.func31, Tryz.ntmps31
  go_wp2_with (go_at_call 53; refine (HB.out _).mono ?_; rintro e w1 ⟨rfl, hbx, htg, v1, hr1, hP⟩; have HTG := hideL (And.intro htg hr1); obtain ⟨⟨s0, s1, s2, s3, s4⟩, -⟩ := cells5 hbx; clear hbx htg hr1)
  refine hP.mono ?_
  clear hP
  intro e w2 hE
  cases R with
  | bad l er q3 made3 =>
    obtain ⟨he, hE2⟩ := hE
    have HE : Hid (GwE w base gp doc g off n cap L v os key (.bad l er q3 made3) (wrongE doc l er) w2) := ⟨rfl, HTG.out.1.trans hE2 HTG.out.2⟩
    clear hE2
    unfold wrongE at he HE
    subst he
    exact ⟨rfl, HE.out⟩
  | ok ts q3 made3 =>
    obtain ⟨hmade, kv, v2, ns, rfl, hli⟩ := hE
    have HLI := hideL hli
    have HMD := hideL hmade
    obtain ⟨ka, kc, rfl, _, hKc, hkm⟩ := own_form hli.kids
    have hlo : (os ++ [bareN 3 key ⟨#[]⟩ false line]).length = N + 1 := by rw [List.length_append, HN.out]; rfl
    have hlr := hli.gs.own.row
    rw [hli.lens, hlo] at hlr
    obtain ⟨b, hbv⟩ : ∃ b cp, v2 = .slice (some ⟨b, 0, none⟩) (N + 1 + sizes ts) cp := by
      obtain ⟨va, vc, hv, _⟩ := own_form hlr
      subst hv
      obtain ⟨b, rfl⟩ := own_some hlr (by omega)
      exact ⟨b, vc, rfl⟩
    obtain ⟨cp, rfl⟩ := hbv
    obtain ⟨M, hM⟩ : ∃ M, N + 1 + sizes ts = M := ⟨_, rfl⟩
    obtain ⟨K, hK⟩ : ∃ K, ts.length = K := ⟨_, rfl⟩
    have HD := hideL (Li.done (os := os) HLI.out (by rw [HN.out]))
    rw [HN.out, hM, hK] at HD
    rw [hM] at hlr
    have g2 : w2.cell? ⟨gp, 2, none⟩ = some (.slice (some ⟨b, 0, none⟩) M cp) := by
      obtain ⟨oq, h1, _⟩ := hli.gs.blk
      rw [cell_block h1, hM]; rfl
    have zc : w2.cell? ⟨b, N * 6 + 5, none⟩ = some (.slice none 0 0) := by
      rw [hlr.cellAt (N * 6 + 5) (by omega)]
      have := rowsN_at ((os ++ [bareN 3 key ⟨#[]⟩ false line]) ++ ns) N (bareN 3 key ⟨#[]⟩ false line) (by rw [← HN.out]; simp) 5 (.slice none 0 0) rfl
      exact this
    have zf : w2.frozen? ⟨b, N * 6 + 5, none⟩ = false := hlr.frozenAt (N * 6 + 5)
    have hNM : (N : Int) < (M : Int) := by omega
    have hN0 : (0 : Int) ≤ (N : Int) := by omega
    have HSZ := hideL (And.intro hM (And.intro hlo hK))
    rw [hK]
    clear hli hlr hmade hlo hM hK
    go_wp2_with (fail)
    go_end0
    refine ⟨rfl, ?_, _, _, HD.out.1, ?_, HTG.out.1.trans HD.out.2.2.1 HTG.out.2, ?_, fun o ho r hr => Nat.le_trans HTG.out.1.size (HD.out.2.2.2 o ho r hr)⟩
    · have h1 := HMD.out
      rw [HSZ.out.2.1] at h1
      rw [h1, HN.out, Tr.size]; omega
    · rw [HD.out.2.1, HN.out]; rfl
    · have hrow := HLI.out.row
      rcases hrow with e | e
      · rcases HTG.out.2 with e2 | e2
        · exact .inl (e.trans e2)
        · refine .inr fun r hr => e2 r (e.symm.trans hr)
      · exact .inr fun r hr => Nat.le_trans HTG.out.1.size (e r hr)
/-- a grower's block, at every depth -/
theorem gblock_any (base gp : Nat) (doc : Int) (g off n cap : Nat) (L : List Tk) : ∀ (f : Nat) (d : Int), d + (f : Int) = 17 → 1 ≤ d → BlkC base gp doc g off n cap L f d := by
  intro f
  induction f with
  | zero =>
    intro d hd hd1 w q v os key h hks ⟨t, ht, hkd⟩
    have e : blkM L 0 q os.length = .bad t.line 92 q os.length := by rw [blkM, ht]
    rw [e]
    exact block_dead w base gp doc g off n cap L q v os t key d h ht hkd (.inl (by omega))
  | succ f ih =>
    intro d hd hd1 w q v os key h hks ⟨t, ht, hkd⟩
    have hC := ih (d + 1) (by omega) (by omega)
    by_cases hm : os.length = 4096
    · have e : blkM L (f + 1) q os.length = .bad t.line 92 q os.length := by
        rw [blkM, ht]
        dsimp only
        rw [if_pos hm]
      rw [e]
      exact block_dead w base gp doc g off n cap L q v os t key d h ht hkd (.inr hm)
    have hl : os.length < 4096 := by have := h.few; omega
    by_cases h4 : t.kd = 4
    · have e : blkM L (f + 1) q os.length = .ok (.node 1 ByteArray.empty t.tx t.quo t.line []) (q + 1) (os.length + 1) := by
        rw [blkM, ht]
        dsimp only
        rw [if_neg hm, if_pos h4]
      rw [e]
      exact block_leaf w base gp doc g off n cap L q v os t key d h ht h4 (by omega) hl hks
    by_cases h3 : t.kd = 3
    · exact gblock_map w base gp doc g off n cap L q v os t key d f (by omega) (by omega) h ht h3 hl hks hC
    · exact gblock_seq w base gp doc g off n cap L q v os t key d f (by omega) (by omega) h ht (by omega) hl hks hC
end Go.Proofs.YtmmnpnhffgpchaaGreatDoor

/-
  A document's tokens grown to a tree.
-/
namespace Go.Proofs.YtmmnpnhffgpchaaGreatDoor
open Go.RowKit
set_option linter.unusedVariables false
set_option linter.unusedSimpArgs false
set_option maxRecDepth 100000
/-- what a document comes to -/
inductive Dr where
  | ok (t : Tr)
  | bad (line err : Int)
def docM (L : List Tk) : Dr := match L[0]? with
  | none => .bad 0 0
  | some t0 => if 2 ≤ t0.kd ∧ t0.kd ≤ 4 then
      (match blkM L 16 0 0 with
        | .bad l e _ _ => .bad l e
        | .ok t q _ => match L[q]? with
          | some u => .bad u.line 90
          | none => .ok t)
    else .bad t0.line 90
theorem blkM_key {L : List Tk} {f q made : Nat} {t : Tr} {q2 m2 : Nat} (h : blkM L f q made = .ok t q2 m2) : t.withKey ByteArray.empty = t := by
  cases f with
  | zero =>
    rw [blkM] at h
    rcases hu : L[q]? with _ | u
    · rw [hu] at h; cases h
    · rw [hu] at h; cases h
  | succ f =>
    rcases hu : L[q]? with _ | u
    · rw [blkM, hu] at h; cases h
    · by_cases hm : made = 4096
      · rw [blkM, hu] at h
        dsimp only at h
        rw [if_pos hm] at h
        cases h
      · by_cases h4 : u.kd = 4
        · rw [blkM, hu] at h
          dsimp only at h
          rw [if_neg hm, if_pos h4] at h
          cases h
          rfl
        · rw [blkM_many hu hm h4] at h
          split at h
          · cases h; rfl
          · cases h
/-- a token of no kind: nothing is taken -/
theorem gblock_odd (w : World) (base gp : Nat) (doc : Int) (g off n cap : Nat) (L : List Tk) (q : Nat) (v : Value) (os : List Nx) (t : Tk) (key : ByteArray) (d : Int) (h : Gs w base gp doc g off n cap L q v os) (ht : L[q]? = some t) (hkd : ¬ (2 ≤ t.kd ∧ t.kd ≤ 4)) :
    Calls Tryz.prog 31 #[.pointer (some ⟨gp, 0, none⟩), .string key, .int .i64 d] w fun e w' => e = .returned (.tuple #[]) ∧ Below w.heap.size w w' := by
  obtain ⟨oq, m, c, z1, m1, y0, y1, y2, y3, y4⟩ := h.bst ht
  have i2 : (0 : Int) < (m : Int) := by omega
  have hp0 : 0 < m := by omega
  obtain ⟨kd, line, col, tx, quo⟩ := t
  dsimp only at *
  have b4 : (kd == 4) = false := by rw [beq_eq_false_iff_ne]; omega
  have b3 : (kd == 3) = false := by rw [beq_eq_false_iff_ne]; omega
  have b2 : (kd == 2) = false := by rw [beq_eq_false_iff_ne]; omega
  clear h ht hkd
  go_enter Tryz.func31, Tryz.ntmps31
  go_wp2
  go_end0
  exact ⟨rfl, (Below.refl _ w).alloc (Nat.le_refl _) _⟩
/-- the tokens of a document, in memory that is not the call's own -/
structure Dt (w : World) (g off n cap : Nat) (L : List Tk) : Prop where
  ts : ∀ (i : Nat) (t : Tk), L[i]? = some t → ∀ (j : Nat) (u : Value), t.row[j]? = some u → w.cell? ⟨g, off + i * 5 + j, none⟩ = some u
  str : ∀ t ∈ L, t.tx.size ≤ 281474976710656
  len : L.length = n
  small : n ≤ 17592186043904
  ncap : n ≤ cap
  cape : cap ≤ 9223372036854775807
  glt : g < w.heap.size
  some : 0 < n
def GtE (w : World) (doc : Int) (r : Dr) (e : Ending) (w' : World) : Prop := match r with
  | .ok t => ∃ v ns, e = .returned v ∧ Own w' w.heap.size v ns ∧ ns.map Nx.nd = t.flat 0 ∧ ns.length ≤ 4096 ∧ Below w.heap.size w w'
  | .bad l er => e = wrongE doc l er ∧ Below w.heap.size w w'
theorem own_low2 {w : World} {b1 b2 : Nat} {v : Value} {os : List Nx} (h : Own w b1 v os) (hb : b2 ≤ b1) : Own w b2 v os :=
  ⟨own_low' h.row hb, fun o ho => ⟨own_low' (h.kids o ho).1 hb, (h.kids o ho).2⟩⟩
set_option maxHeartbeats 4000000 in
theorem grow_any (w : World) (doc : Int) (g off n cap : Nat) (L : List Tk) (h : Dt w g off n cap L) :
    Calls Tryz.prog 19 #[.slice (some ⟨g, off, none⟩) n cap, .int .i64 doc] w (GtE w doc (docM L)) := by
  obtain ⟨t0, ht0⟩ : ∃ t0, L[0]? = some t0 := ⟨L[0]'(by rw [h.len]; exact h.some), List.getElem?_eq_getElem _⟩
  have hg0 : Gs (w.alloc (.cells #[.int .i64 doc, .slice (some ⟨g, off, none⟩) n cap, .slice none 0 0] 80)) (w.heap.size + 1) w.heap.size doc g off n cap L 0 (.slice none 0 0) [] := {
    blk := ⟨off, by rw [Nat.sub_zero, Nat.sub_zero]; exact Go.heap_alloc_new _ _, fun _ => by omega⟩
    ts := fun i t hi j u hu => cell_al (h.ts i t hi j u hu) _
    str := h.str
    len := h.len
    small := h.small
    ncap := h.ncap
    cape := h.cape
    q := Nat.zero_le _
    gne := by have := h.glt; omega
    glt := by have := h.glt; omega
    gplt := by omega
    own := Own.nil _ _
    few := by simp
    bw := by simp }
  have HG0 := hideL hg0
  have HBT : Hid (∀ w2, Tg (w.alloc (.cells #[.int .i64 doc, .slice (some ⟨g, off, none⟩) n cap, .slice none 0 0] 80)) w2 w.heap.size (.slice none 0 0) → Below w.heap.size w w2) := fun w2 ht => by
    have hb : Below w.heap.size w (w.alloc (.cells #[.int .i64 doc, .slice (some ⟨g, off, none⟩) n cap, .slice none 0 0] 80)) := (Below.refl _ w).alloc (Nat.le_refl _) _
    exact hb.trans ⟨ht.os, ht.tape, ht.output, ht.size, fun k hk => ht.block k (by simp; omega) (by omega) (by intro e; cases e)⟩
  have hlen := h.len
  obtain ⟨D, hD⟩ : ∃ D, docM L = D := ⟨_, rfl⟩
  rw [hD]
  unfold docM at hD
  rw [ht0] at hD
  dsimp only at hD
  by_cases hkd : 2 ≤ t0.kd ∧ t0.kd ≤ 4
  · rw [if_pos hkd] at hD
    have hB := gblock_any (w.heap.size + 1) w.heap.size doc g off n cap L 16 1 (by decide) (by decide) _ 0 (.slice none 0 0) [] ByteArray.empty hg0 (by decide) ⟨t0, ht0, hkd⟩
    obtain ⟨R, hR⟩ : ∃ R, blkM L 16 0 0 = R := ⟨_, rfl⟩
    have HR := hideL hR
    rw [List.length_nil, hR] at hB
    rw [hR] at hD
    have HD := hideL hD
    clear h hg0 ht0 hkd hR hD
    go_enter Tryz.func19, Tryz.ntmps19
    go_wp2_with (fail)
    refine hB.mono ?_
    clear hB
    intro e w2 hE
    cases R with
    | bad l er q3 m3 =>
      obtain ⟨he, htg⟩ := hE
      have HE : Hid (GtE w doc D (wrongE doc l er) w2) := by
        have hD := HD.out
        subst hD
        exact ⟨rfl, HBT.out w2 htg⟩
      clear htg
      unfold wrongE at he HE
      subst he
      exact ⟨rfl, HE.out⟩
    | ok t q3 m3 =>
      obtain ⟨rfl, hmade, v1, ns, hO⟩ := hE
      have hgs := hO.gs
      rw [List.nil_append] at hgs
      have HGS := hideL hgs
      have HBE := hideL (HBT.out w2 hO.tg)
      have HND := hideL hO.nds
      clear hmade hO hgs
      rcases hu : L[q3]? with _ | u
      · have HUU := hideL hu
        have hq : n ≤ q3 := by have := List.getElem?_eq_none_iff.1 hu; omega
        obtain ⟨oq, hbk, -⟩ := HGS.out.blk
        have z1 : w2.cell? ⟨w.heap.size, 1, none⟩ = some (.slice (some ⟨g, oq, none⟩) 0 (cap - q3)) := by rw [cell_block hbk, show n - q3 = 0 by omega]; rfl
        have z2 : w2.cell? ⟨w.heap.size, 2, none⟩ = some v1 := by rw [cell_block hbk]; rfl
        obtain ⟨c, hc⟩ : ∃ c, cap - q3 = c := ⟨_, rfl⟩
        rw [hc] at z1
        have HE : Hid (GtE w doc D (.returned v1) w2) := by
          have hD := HD.out
          dsimp only at hD
          rw [hu] at hD
          subst hD
          exact ⟨v1, ns, rfl, own_low2 HGS.out.own (by omega), by have h1 := HND.out; rw [blkM_key HR.out] at h1; exact h1, HGS.out.few, HBE.out⟩
        obtain ⟨va, vc, rfl, _⟩ := own_form HGS.out.own.row
        clear hbk hu hq hc
        go_wp2_with (fail)
        go_ret
        exact HE.out
      · have HUU := hideL hu
        have hq : q3 < n := by have := (List.getElem?_eq_some_iff.1 hu).1; omega
        obtain ⟨oq, m, c, z1, m1, y0, y1, y2, y3, y4⟩ := HGS.out.bst hu
        have i2 : (0 : Int) < (m : Int) := by omega
        have hp0 : 0 < m := by omega
        have hgu := giveUp_any w2 (w.heap.size + 1) w.heap.size doc g off n cap L q3 v1 ns u 90 HGS.out
        have HGE : Hid (∀ w3, Below w2.heap.size w2 w3 → GtE w doc D (wrongE doc u.line 90) w3) := fun w3 h3 => by
          have hD := HD.out
          dsimp only at hD
          rw [hu] at hD
          subst hD
          exact ⟨rfl, HBE.out.trans (h3.mono HBE.out.size)⟩
        obtain ⟨kd, line, col, tx, quo⟩ := u
        unfold tokV at hgu
        dsimp only at *
        clear hu hq m1
        go_wp2_with (go_at_call 32; refine hgu.mono ?_; rintro e w3 ⟨he, h3⟩; have HE := hideL (HGE.out w3 h3); unfold wrongE at he HE; subst he)
        refine ⟨rfl, ?_⟩
        exact HE.out
  · rw [if_neg hkd] at hD
    have HD := hideL hD
    have hB := gblock_odd _ (w.heap.size + 1) w.heap.size doc g off n cap L 0 (.slice none 0 0) [] t0 ByteArray.empty 1 hg0 ht0 hkd
    have HT0 := hideL ht0
    clear h hg0 ht0 hkd hD
    go_enter Tryz.func19, Tryz.ntmps19
    go_wp2_with (fail)
    refine hB.mono ?_
    clear hB
    rintro e w2 ⟨rfl, hb⟩
    have HGS := hideL (HG0.out.below hb)
    have HBE : Hid (Below w.heap.size w w2) := ((Below.refl _ w).alloc (Nat.le_refl _) _).trans (hb.mono (by simp))
    have hu := HT0.out
    clear hb HT0
    obtain ⟨u, hut⟩ : ∃ u, t0 = u := ⟨_, rfl⟩
    subst hut
    have hq : 0 < n := by have := (List.getElem?_eq_some_iff.1 hu).1; omega
    obtain ⟨oq, m, c, z1, m1, y0, y1, y2, y3, y4⟩ := HGS.out.bst hu
    have i2 : (0 : Int) < (m : Int) := by omega
    have hp0 : 0 < m := by omega
    have hgu := giveUp_any w2 (w.heap.size + 1) w.heap.size doc g off n cap L 0 (.slice none 0 0) [] t0 90 HGS.out
    have HGE : Hid (∀ w3, Below w2.heap.size w2 w3 → GtE w doc D (wrongE doc t0.line 90) w3) := fun w3 h3 => by
      have hD := HD.out
      subst hD
      exact ⟨rfl, HBE.out.trans (h3.mono HBE.out.size)⟩
    obtain ⟨kd, line, col, tx, quo⟩ := t0
    unfold tokV at hgu
    dsimp only at *
    clear hu hq m1
    go_wp2_with (go_at_call 32; refine hgu.mono ?_; rintro e w3 ⟨he, h3⟩; have HE := hideL (HGE.out w3 h3); unfold wrongE at he HE; subst he)
    exact ⟨rfl, HE.out⟩
end Go.Proofs.YtmmnpnhffgpchaaGreatDoor

/-
  A reading, while other blocks turn.
-/
namespace Go.Proofs.YtmmnpnhffgpchaaGreatDoor
open Go.RowKit
set_option linter.unusedVariables false
/-- its own block and the tokens' stay: so does the reading -/
theorem Rg.keep {w w' : World} {rp : Nat} {a : Option Addr} {n cap : Nat} {L : List Tk} {q : Nat} {line err : Int} {made : Nat} (h : Rg w rp a n cap L q line err made) (h1 : w'.heap[rp]? = w.heap[rp]?) (h2 : ∀ x, a = some x → L ≠ [] → w'.heap[x.block]? = w.heap[x.block]?) : Rg w' rp a n cap L q line err made :=
  { h with blk := h1.trans h.blk, ts := h.ts.keep h2 }
end Go.Proofs.YtmmnpnhffgpchaaGreatDoor
