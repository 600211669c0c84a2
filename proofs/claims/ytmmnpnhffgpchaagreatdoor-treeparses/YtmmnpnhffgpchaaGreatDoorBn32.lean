import Derived.Test.YtmmnpnhffgpchaaGreatDoorBn31
/-
  The document's block: a map.
-/
namespace Go.Proofs.YtmmnpnhffgpchaaGreatDoor
open Go.RowKit
set_option linter.unusedVariables false
set_option linter.unusedSimpArgs false
set_option maxRecDepth 100000
set_option maxHeartbeats 32000000 in
theorem block_map (w : World) (rp : Nat) (a : Option Addr) (n cap : Nat) (L : List Tk) (t : Tk) (q made d f : Nat) (hd : d + f = 16) (h : Rg w rp a n cap L q 0 0 made) (ht : L[q]? = some t) (hm : ¬ made = 4096) (hk : t.kd = 3)
    (ih : ∀ (w : World) (q made : Nat), Rg w rp a n cap L q 0 0 made → q < n → Calls Tryz.prog 37 #[.pointer (some ⟨rp, 0, none⟩), .int .i64 ((d : Int) + 1)] w (RrE w rp a n cap L (blkM L f q made))) :
    Calls Tryz.prog 37 #[.pointer (some ⟨rp, 0, none⟩), .int .i64 d] w (RrE w rp a n cap L (blkM L (f + 1) q made)) := by
  have hqn : q < n := by have := (List.getElem?_eq_some_iff.1 ht).1; have := h.len; omega
  have hqn' : (q : Int) < n := by omega
  have q0 : (0 : Int) ≤ q := by omega
  have hsm := h.small
  have hmd := h.made
  have hrp := h.lt
  have HBM := hideL (blkM_many (f := f) ht hm (by rw [hk]; decide))
  have HVAL : Hid (∀ (W : World) (u : Tk) (q made : Nat), Rg W rp a n cap L q 0 0 made → Calls Tryz.prog 60 #[.pointer (some ⟨rp, 0, none⟩), .agg u.row.toArray, .int .i64 ((d : Int) + 1)] W (RrE W rp a n cap L (valM (blkM L f) (decide (f = 0)) L u q made))) := fun W u q made hW => by
    have := value_any W rp a n cap L u q made (d + 1) f (by omega) (blkM L f) hW (fun w q made h1 h2 => by have := ih w q made h1 h2; rwa [← Int.natCast_one, ← Int.natCast_add] at this)
    rwa [Int.natCast_add] at this
  have HLEN := hideL h.len
  have HSTR := hideL h.ts.str
  have HTQ := hideL ht
  obtain ⟨z0, z1, z2, z3, z4⟩ := h.cells
  rcases h.ts.row with hx | ⟨g, off, rfl, hcc⟩
  · rw [hx] at ht; simp at ht
  have n0 := hcc q t ht 0 _ rfl
  have n1 := hcc q t ht 1 _ rfl
  have n2 := hcc q t ht 2 _ rfl
  have n3 := hcc q t ht 3 _ rfl
  have n4 := hcc q t ht 4 _ rfl
  rw [Nat.add_zero] at n0
  have HR := hideL h
  obtain ⟨R, hR⟩ : ∃ R, blkM L (f + 1) q made = R := ⟨_, rfl⟩
  rw [hR] at HBM ⊢
  obtain ⟨kt, lt, ct, xt, qt⟩ := t
  dsimp only at n0 n1 n2 n3 n4 HBM hk
  have hd16 : ¬ (16 : Int) < d := by omega
  have hm' : ((made : Int) == 4096) = false := by rw [beq_eq_false_iff_ne]; omega
  obtain ⟨V, hV⟩ : ∃ V, valM (blkM L f) (decide (f = 0)) L = V := ⟨_, rfl⟩
  rw [hV] at HBM HVAL
  have HVL : Hid (∀ u q made t q2 m2, V u q made = .ok t q2 m2 → q ≤ q2) := fun u q made t q2 m2 hv => by rw [← hV] at hv; exact valM_le (fun t q2 m2 hb => blkM_le f q made t q2 m2 hb) hv
  clear h ht hcc hR ih hV
  obtain ⟨i58, hi58, hy0, hy1, hy2⟩ := info_parts Tryz.info62
  subst hk
  go_enter Tryz.func37, Tryz.ntmps37
  go_wp2_with fail
  go_region_held3 (fun w' => w'.cell? ⟨rp, 0, none⟩ = some (.slice (some ⟨g, off, none⟩) n cap) ∧ w'.cell? ⟨rp, 1, none⟩ = some (.int .i64 q) ∧ w'.cell? ⟨g, off + q * 5, none⟩ = some (.int .i64 3) ∧ w'.cell? ⟨g, off + q * 5 + 1, none⟩ = some (.int .i64 lt) ∧ w'.cell? ⟨g, off + q * 5 + 2, none⟩ = some (.int .i64 ct) ∧ w'.cell? ⟨g, off + q * 5 + 3, none⟩ = some (.string xt) ∧ w'.cell? ⟨g, off + q * 5 + 4, none⟩ = some (.bool qt)) (go_keep) (fail)
  obtain ⟨W3, hW3⟩ : ∃ W3, (w.alloc (Obj.cells #[.int .i64 3, .int .i64 lt, .int .i64 ct, .string xt, .bool qt] 61)).drew = W3 := ⟨_, rfl⟩
  have hb3 : Below w.heap.size w W3 := by
    rw [← hW3]
    exact ((Below.refl _ _).alloc (Nat.le_refl _) _).trans ⟨rfl, rfl, rfl, Nat.le_refl _, fun _ _ => rfl⟩
  have hk3 : W3.heap[w.heap.size]? = some (.cells #[.int .i64 3, .int .i64 lt, .int .i64 ct, .string xt, .bool qt] 61 (0, 0)) := by rw [← hW3]; exact Go.heap_alloc_new w _
  have hs3 : W3.heap.size = w.heap.size + 1 := by rw [← hW3]; show (w.alloc _).heap.size = _; simp
  have hR3 := HR.out.below hb3
  obtain ⟨z0', z1', z2', z3', z4'⟩ := hR3.cells
  have f4 := hR3.free 4
  have hX4 := hR3.set.2.2.2 (made + 1) (by omega)
  have hbx : But rp w (W3.setCell ⟨rp, 4, none⟩ (.int .i64 ((made + 1 : Nat) : Int))) := (But.of_below hb3).trans (But.set 4 _)
  have hkx : (W3.setCell ⟨rp, 4, none⟩ (.int .i64 ((made + 1 : Nat) : Int))).heap[w.heap.size]? = some (.cells #[.int .i64 3, .int .i64 lt, .int .i64 ct, .string xt, .bool qt] 61 (0, 0)) := by rw [Below.heap_setCell _ _ _ _ (by show w.heap.size ≠ rp; omega)]; exact hk3
  have x0 : W3.cell? ⟨w.heap.size, 0, none⟩ = some (.int .i64 3) := by rw [cell_block hk3]; rfl
  have x1 : W3.cell? ⟨w.heap.size, 1, none⟩ = some (.int .i64 lt) := by rw [cell_block hk3]; rfl
  have y0 : (W3.setCell ⟨rp, 4, none⟩ (.int .i64 ((made : Int) + 1))).cell? ⟨w.heap.size, 0, none⟩ = some (.int .i64 3) := (cell_block hkx 0).trans rfl
  have y1 : (W3.setCell ⟨rp, 4, none⟩ (.int .i64 ((made : Int) + 1))).cell? ⟨w.heap.size, 1, none⟩ = some (.int .i64 lt) := (cell_block hkx 1).trans rfl
  have hBW := Bw.start (W3 := W3) (tk := ⟨3, lt, ct, xt, qt⟩) (kx := 2) hrp hbx hkx (by simp [hs3])
  have hbl : Below (W3.setCell ⟨rp, 4, none⟩ (.int .i64 ((made + 1 : Nat) : Int))).heap.size (W3.setCell ⟨rp, 4, none⟩ (.int .i64 ((made + 1 : Nat) : Int))) ((W3.setCell ⟨rp, 4, none⟩ (.int .i64 ((made + 1 : Nat) : Int))).alloc (.cells #[.int .i64 2, .string ⟨#[]⟩, .string ⟨#[]⟩, .bool false, .int .i64 lt, .slice none 0 0] 95 (0, 0))) := (Below.refl _ _).alloc (Nat.le_refl _) _
  have HRX := hideL (hX4.below hbl)
  have HBW := hideL hBW
  have HRP := hideL hrp
  rw [hW3]
  clear z0 z1 z2 z3 z4 n0 n1 n2 n3 n4 hW3 hb3 hR3 hX4 hbx hkx hBW hbl hk3
  go_wp2_with fail
  go_loopw [8] (fun _ wr => ∃ (k q' made' : Nat) (v : Value) (ts : List Tr) (ps : List Nat), Hid (lpM V L ⟨3, lt, ct, xt, qt⟩ (L.length - q) [] q (made + 1) = lpM V L ⟨3, lt, ct, xt, qt⟩ k ts q' made') ∧ n - q' ≤ k ∧ Rg wr rp (some ⟨g, off, none⟩) n cap L q' 0 0 made' ∧ Bw w wr rp ⟨3, lt, ct, xt, qt⟩ 2 v ts ps ∧ ts.length + q ≤ q') (fun _ wr => n - qOf rp wr)
  case atStart => exact ⟨L.length - q, q, made + 1, _, [], [], rfl, by rw [HLEN.out]; exact Nat.le_refl _, HRX.out, HBW.out, by simp⟩
  case round =>
    obtain ⟨k, q', made', v, ts, ps, HLP, hkq, hrg, hbw, htq⟩ := hrel
    have q0' : (0 : Int) ≤ q' := by omega
    obtain ⟨ao, cp, rfl, _, hic, hcm⟩ := own_form hbw.own
    obtain ⟨z0, z1, z2, z3, z4⟩ := hrg.cells
    have g1 := hrg.free 1
    have b0 : wr.cell? ⟨w.heap.size, 0, none⟩ = some (.int .i64 3) := by rw [cell_block hbw.n]; rfl
    have b2 : wr.cell? ⟨w.heap.size, 2, none⟩ = some (.int .i64 ct) := by rw [cell_block hbw.n]; rfl
    have HRG := hideL hrg
    have HBW2 := hideL hbw
    have hq'n := hrg.q
    have HFIN : Hid (lpM V L ⟨3, lt, ct, xt, qt⟩ k ts q' made' = .ok ts q' made' → ∀ m, RrE w rp (some ⟨g, off, none⟩) n cap L R (.returned (.pointer (some ⟨w.heap.size + 1, 0, none⟩))) (wr.drewN m)) := fun hfin m => by
      rw [HBM.out, HLP.out, hfin]
      have hif : (if (3 : Int) = 2 then (3 : Int) else 2) = 2 := by decide
      refine ⟨_, rfl, ?_, hrg.below (below_drewN (Below.refl _ _) _), hbw.bel.trans (But.of_below (below_drewN (Below.refl _ _) _))⟩
      rw [hif]
      exact TrIn.turn (w := wr) (w' := wr.drewN m) (F := fun k => w.heap.size ≤ k ∧ k < wr.heap.size) (F' := fun k => w.heap.size ≤ k ∧ k < (wr.drewN m).heap.size) (fun k hk => hk) (fun k hk => rfl) _ _ hbw.done
    by_cases h3 : q' < n
    · have h3' : (q' : Int) < n := by omega
      rcases hu : L[q']? with _ | u
      · have := List.getElem?_eq_none_iff.1 hu; have := HLEN.out; omega
      have hcell : ∀ (j : Nat) (y : Value), u.row[j]? = some y → wr.cell? ⟨g, off + q' * 5 + j, none⟩ = some y := by
        rcases hrg.ts.row with hx | ⟨g', off', ha, hcc⟩
        · rw [hx] at hu; simp at hu
        · cases ha; exact hcc q' u hu
      have m0 := hcell 0 _ rfl
      have m1 := hcell 1 _ rfl
      have m2 := hcell 2 _ rfl
      have m3 := hcell 3 _ rfl
      have m4 := hcell 4 _ rfl
      rw [Nat.add_zero] at m0
      have HU := hideL hu
      have HUS := hideL (HSTR.out u (List.mem_of_getElem? hu))
      clear hrg hbw hcell hu
      by_cases hku : u.kd = 3
      · by_cases hcu : u.col = ct
        · obtain ⟨k', rfl⟩ : ∃ k', k = k' + 1 := ⟨k - 1, by omega⟩
          obtain ⟨uk, ul, uc, ux, uq⟩ := u
          dsimp only at hku hcu m0 m1 m2 m3 m4 HUS
          subst hku hcu
          go_wp2_with fail
          go_quiet (fail)
          go_wp2_with fail
          obtain ⟨W5, hW5⟩ : ∃ W5, wr.drewN nq = W5 := ⟨_, rfl⟩
          have hb5 : Below wr.heap.size wr W5 := by rw [← hW5]; exact below_drewN (Below.refl _ _) _
          have HR5 := hideL (HRG.out.below hb5)
          have HBW5 := hideL (HBW2.out.call HRP.out (But.of_below hb5))
          have s0 := cell_of_below hb5 z0
          have s1 := cell_of_below hb5 z1
          have r0 := cell_of_below hb5 m0
          have r1 := cell_of_below hb5 m1
          have r2 := cell_of_below hb5 m2
          have r3 := cell_of_below hb5 m3
          have r4 := cell_of_below hb5 m4
          rw [hW5]
          clear z0 z1 z2 z3 z4 m0 m1 m2 m3 m4 b0 b2 g1 hb5 hW5
          go_region_held3 (fun w' => w'.cell? ⟨rp, 0, none⟩ = some (.slice (some ⟨g, off, none⟩) n cap) ∧ w'.cell? ⟨rp, 1, none⟩ = some (.int .i64 q') ∧ w'.cell? ⟨g, off + q' * 5, none⟩ = some (.int .i64 3) ∧ w'.cell? ⟨g, off + q' * 5 + 1, none⟩ = some (.int .i64 ul) ∧ w'.cell? ⟨g, off + q' * 5 + 2, none⟩ = some (.int .i64 uc) ∧ w'.cell? ⟨g, off + q' * 5 + 3, none⟩ = some (.string ux) ∧ w'.cell? ⟨g, off + q' * 5 + 4, none⟩ = some (.bool uq)) (go_keep) (fail)
          obtain ⟨W6, hW6⟩ : ∃ W6, (W5.alloc (Obj.cells #[.int .i64 3, .int .i64 ul, .int .i64 uc, .string ux, .bool uq] 61)).drew = W6 := ⟨_, rfl⟩
          have hb6 : Below W5.heap.size W5 W6 := by
            rw [← hW6]
            exact ((Below.refl _ _).alloc (Nat.le_refl _) _).trans ⟨rfl, rfl, rfl, Nat.le_refl _, fun _ _ => rfl⟩
          have hk6 : W6.heap[W5.heap.size]? = some (.cells #[.int .i64 3, .int .i64 ul, .int .i64 uc, .string ux, .bool uq] 61 (0, 0)) := by rw [← hW6]; exact Go.heap_alloc_new W5 _
          have hR6 := HR5.out.below hb6
          have HR6 := hideL hR6
          have HBW6 := hideL (HBW5.out.call HRP.out (But.of_below hb6))
          obtain ⟨b5, hb5e⟩ : ∃ b5, W5.heap.size = b5 := ⟨_, rfl⟩
          have hb5r : w.heap.size + 1 < b5 := by rw [← hb5e]; exact (Array.getElem?_eq_some_iff.1 HBW5.out.t).1
          rw [hb5e] at hk6
          have HK6 := hideL hk6
          obtain ⟨z0, z1, z2, z3, z4⟩ := hR6.cells
          have g1 := hR6.free 1
          have u0 : W6.cell? ⟨b5, 0, none⟩ = some (.int .i64 3) := by rw [cell_block hk6]; rfl
          have u1 : W6.cell? ⟨b5, 1, none⟩ = some (.int .i64 ul) := by rw [cell_block hk6]; rfl
          have u3 : W6.cell? ⟨b5, 3, none⟩ = some (.string ux) := by rw [cell_block hk6]; rfl
          have v5 : W6.cell? ⟨w.heap.size + 1, 5, none⟩ = some (.slice ao ts.length cp) := by rw [cell_block HBW6.out.t]; rfl
          have hnx : q' + 1 ≤ n := by omega
          have hX7 := hR6.set.1 (q' + 1) hnx
          have HX7 := hideL hX7
          have HB7 : Hid (But rp W6 (W6.setCell ⟨rp, 1, none⟩ (.int .i64 ((q' : Int) + 1)))) := But.set 1 _
          have HK7 : Hid ((W6.setCell ⟨rp, 1, none⟩ (.int .i64 ((q' : Int) + 1))).heap[b5]? = some (.cells #[.int .i64 3, .int .i64 ul, .int .i64 uc, .string ux, .bool uq] 61 (0, 0))) := (Below.heap_setCell _ _ _ _ (by show b5 ≠ rp; have := HRP.out; omega)).trans hk6
          have a0 := (cell_block HK7.out 0).trans rfl
          have a1 := (cell_block HK7.out 1).trans rfl
          have a2 := (cell_block HK7.out 2).trans rfl
          have a3 := (cell_block HK7.out 3).trans rfl
          have a4 := (cell_block HK7.out 4).trans rfl
          have HV7 := hideL (HVAL.out (W6.setCell ⟨rp, 1, none⟩ (.int .i64 ((q' : Int) + 1))) ⟨3, ul, uc, ux, uq⟩ (q' + 1) made' hX7)
          rw [hW6, hb5e]
          clear s0 s1 r0 r1 r2 r3 r4 hW6 hb6 hk6 hR6 hX7 HR5 HBW5
          go_wp2_with fail
          go_loopw [9] (fun t wr2 => ∃ (i : Nat), t = .int .i64 i ∧ i ≤ ts.length ∧ wr2 = W6 ∧ Hid (∀ (j : Nat) t2, j < i → ts[j]? = some t2 → ¬ t2.key = ux)) (fun t _ => ts.length - (intOf t).toNat)
          case atStart => exact ⟨0, rfl, by omega, rfl, fun j c hj _ => by omega⟩
          case round =>
            obtain ⟨i, rfl, hi, hw6, HF⟩ := hrel
            have hw6 := hw6.symm
            subst hw6
            have i0 : (0 : Int) ≤ i := by omega
            have hlm : ts.length ≤ 9223372036854775807 := by have := hic; have := hcm; unfold maxLen at this; omega
            by_cases h5 : i < ts.length
            · have h5' : (i : Int) < ts.length := by omega
              rcases hti : ts[i]? with _ | t2
              · have := List.getElem?_eq_none_iff.1 hti; omega
              obtain ⟨p2, hp2, hT2⟩ := HBW6.out.kids.at_ hti
              obtain ⟨r, rfl⟩ := own_some HBW6.out.own (by omega)
              have zr : W6.cell? ⟨r, i, none⟩ = some (.pointer (some ⟨p2, 0, none⟩)) := by rw [HBW6.out.own.cellAt i (by omega)]; exact ptrs_at hp2
              obtain ⟨zk, _, _⟩ := hT2.cells
              have HTI := hideL hti
              clear hti hp2 hT2
              by_cases he : t2.key = ux
              · have he' : (t2.key.toList == ux.toList) = true := by rw [he]; exact ba_eq _
                have HQ : Hid (R = .bad ul 91 q' made') := by
                  show _ = _
                  rw [HBM.out, HLP.out, lpM_twice (t0 := ⟨3, lt, uc, xt, qt⟩) HU.out rfl rfl ⟨rfl, t2, List.mem_of_getElem? HTI.out, he⟩]
                rw [he] at zk
                go_wp2_with fail
                refine (fail_any W6 rp _ n cap L q' 0 made' ul 91 HR6.out).mono ?_
                rintro e w7 ⟨rfl, hR7, hB7⟩
                go_wp2
                go_ret
                rw [HQ.out]
                exact ⟨rfl, hR7, HBW6.out.bel.trans hB7⟩
              · have he' : (t2.key.toList == ux.toList) = false := ba_ne he
                go_wp2
                go_roundw
                case rel =>
                  refine ⟨i + 1, by go_num, by omega, by trivial, fun j t3 hj ht3 => ?_⟩
                  by_cases hji : j < i
                  · exact HF.out j t3 hji ht3
                  · obtain rfl : j = i := by omega
                    rw [HTI.out] at ht3; cases ht3
                    exact he
                case measure => simp [intOf]; omega
            · have h5' : ¬ (i : Int) < ts.length := by omega
              have HNT : Hid (¬ ∃ x ∈ ts, x.key = ux) := fun ⟨x, hx, hk⟩ => by
                obtain ⟨j, hj⟩ := List.mem_iff_getElem?.1 hx
                exact HF.out j x (by have := (List.getElem?_eq_some_iff.1 hj).1; omega) hj hk
              go_wp2_with fail
              refine HV7.out.mono ?_
              rintro e w8 hE
              rcases hv : V ⟨3, ul, uc, ux, uq⟩ (q' + 1) made' with ⟨v, q2, m2⟩ | ⟨l, er, q2, m2⟩
              · rw [hv] at hE
                obtain ⟨p, rfl, hT, hR8, hB8⟩ := hE
                have hq2 := HVL.out _ _ _ _ _ _ hv
                have HSTEP : Hid (lpM V L ⟨3, lt, uc, xt, qt⟩ (k' + 1) ts q' made' = lpM V L ⟨3, lt, uc, xt, qt⟩ k' (ts ++ [v.withKey ux]) q2 m2) := by
                  show _ = _
                  have := lpM_step (k := k') (t0 := ⟨3, lt, uc, xt, qt⟩) HU.out rfl rfl (fun h => HNT.out h.2) hv
                  rw [this, if_pos rfl]
                have hpl := hT.cells.2.2
                have zp := hT.cells.1
                obtain ⟨zf, hTk⟩ := hT.rekey ux HUS.out
                have hs7 : (W6.setCell ⟨rp, 1, none⟩ (.int .i64 ((q' : Int) + 1))).heap.size = W6.heap.size := by simp
                have hp7 : W6.heap.size ≤ p ∧ p < w8.heap.size := by rw [hs7] at hpl; exact hpl
                have hB9 : But rp W6 (w8.setCell ⟨p, 1, none⟩ (.string ux)) := by
                  have hb := HB7.out.trans hB8
                  exact ⟨hb.os, hb.tape, hb.output, by have := hb.size; simpa using this, fun j hj hne => (Below.heap_setCell _ _ _ _ (by show j ≠ p; omega)).trans (hb.block j hj hne)⟩
                have hrlt := HR6.out.lt
                have htl := HR6.out.ts.lt
                have hR9 : Rg (w8.setCell ⟨p, 1, none⟩ (.string ux)) rp (some ⟨g, off, none⟩) n cap L q2 0 0 m2 := hR8.keep (Below.heap_setCell _ _ _ _ (by show rp ≠ p; omega)) (fun x hx hne => Below.heap_setCell _ _ _ _ (by have := htl x hx hne; show x.block ≠ p; omega))
                have HBW9 := hideL (HBW6.out.call HRP.out hB9)
                have HT9 : Hid (TrIn (w8.setCell ⟨p, 1, none⟩ (.string ux)) (fun k => W6.heap.size ≤ k ∧ k < (w8.setCell ⟨p, 1, none⟩ (.string ux)).heap.size) (v.withKey ux) p) := TrIn.turn (fun k hk => by rw [hs7] at hk; refine ⟨hk.1, ?_⟩; simpa using hk.2) (fun k hk => rfl) _ _ hTk
                have HR9 := hideL hR9
                have HSZ9 : Hid (W6.heap.size ≤ (w8.setCell ⟨p, 1, none⟩ (.string ux)).heap.size) := hB9.size
                have HWS6 : Hid (w.heap.size + 1 < W6.heap.size) := (Array.getElem?_eq_some_iff.1 HBW6.out.t).1
                have HRL6 : Hid (∀ r, (Value.slice ao ts.length cp).ownBlock = some r → r < W6.heap.size) := fun r hr => (HBW6.out.own.lt r hr).2
                have v59 : (w8.setCell ⟨p, 1, none⟩ (.string ux)).cell? ⟨w.heap.size + 1, 5, none⟩ = some (.slice ao ts.length cp) := by rw [cell_block HBW9.out.t]; rfl
                have HOA : Hid (((w8.setCell ⟨p, 1, none⟩ (.string ux)).alloc (.cells #[.pointer (some ⟨p, 0, none⟩)] 62)).ownsRow 0 62 1 (.slice ao ts.length cp) ts.length (ptrs ps)) := HBW9.out.own.alloc _
                have hs9 : (w8.setCell ⟨p, 1, none⟩ (.string ux)).heap.size = w8.heap.size := by simp
                have HNX : Hid (∀ j y, [Value.pointer (some ⟨p, 0, none⟩)][j]? = some y → ((w8.setCell ⟨p, 1, none⟩ (.string ux)).alloc (.cells #[.pointer (some ⟨p, 0, none⟩)] 62)).cell? ((⟨w8.heap.size, 0, none⟩ : Addr).add j) = some y) := by
                  have h1 := World.news_of_block (Go.heap_alloc_new (w8.setCell ⟨p, 1, none⟩ (.string ux)) (.cells #[.pointer (some ⟨p, 0, none⟩)] 62))
                  rw [hs9] at h1
                  exact h1
                have HRN : Hid (∀ w3 v3, ((w8.setCell ⟨p, 1, none⟩ (.string ux)).alloc (.cells #[.pointer (some ⟨p, 0, none⟩)] 62)).grownBy w3 (Value.slice ao ts.length cp).ownBlock → Rg (w3.setCell ⟨w.heap.size + 1, 5, none⟩ v3) rp (some ⟨g, off, none⟩) n cap L q2 0 0 m2) := fun w3 v3 hg3 => by
                  have hlow : ∀ j, j < w.heap.size → (w3.setCell ⟨w.heap.size + 1, 5, none⟩ v3).heap[j]? = (w8.setCell ⟨p, 1, none⟩ (.string ux)).heap[j]? := fun j hj => by
                    have h9 := HSZ9.out
                    have h6 := HWS6.out
                    rw [Below.heap_setCell _ _ _ _ (by show j ≠ w.heap.size + 1; omega), hg3.block j (by simp; omega) (fun e => by have := HBW9.out.far j e.symm; omega)]
                    exact Below.heap_alloc _ _ j (by omega)
                  exact HR9.out.keep (hlow rp HRP.out) (fun x hx hne => hlow _ (HR.out.ts.lt x hx hne))
                have hbm : ts.length + 1 ≤ maxLen := by unfold maxLen; omega
                have hbj : (ts.length + 1) * 8 ≤ 140737488355328 := by omega
                clear hv hT hR8 hB8 hTk hB9 hR9 hs7 hs9
                go_wp2_with (at_builtin; refine wpList_append_at _ rfl (.tmp 173) (.tmp 175) 93 rfl 0 62 i58 (.pointer none) 1 8 Tryz.underlying93 hi58 hy0 hy1 hy2 rfl (by decide) _ ts.length (ptrs ps) rfl HOA.out ⟨w8.heap.size, 0, none⟩ 1 1 [.pointer (some ⟨p, 0, none⟩)] rfl rfl HNX.out (by intro y hy; simp at hy; subst hy; rfl) hbm hbj (Nat.zero_le _) ?_; intro v3 w3 hown3 hgrow3 hat3; obtain ⟨x3, f3, G3⟩ := Bw.app (mm := 0) HBW9.out HT9.out HWS6.out HRL6.out rfl hown3 hgrow3 hat3; have HG3 := hideL G3; have HRN3 := hideL (HRN.out w3 v3 hgrow3); obtain ⟨a3, c3, rfl, _⟩ := own_form hown3; clear hown3 hgrow3 hat3 G3)
                go_roundw
                case rel => exact ⟨k', q2, m2, _, ts ++ [v.withKey ux], ps ++ [p], HLP.out.trans HSTEP.out, by omega, HRN3.out, HG3.out, by simp; omega⟩
                case measure => rw [HRN3.out.qOf, HRG.out.qOf]; omega
              · rw [hv] at hE
                obtain ⟨rfl, hR8, hB8⟩ := hE
                have HQ : Hid (R = .bad l er q2 m2) := by
                  show _ = _
                  rw [HBM.out, HLP.out, lpM_bad (t0 := ⟨3, lt, uc, xt, qt⟩) HU.out rfl rfl (fun h => HNT.out h.2) hv]
                clear hv
                go_wp2
                go_ret
                rw [HQ.out]
                exact ⟨rfl, hR8, (HBW6.out.bel.trans HB7.out).trans hB8⟩
        · have HE := hideL (HFIN.out (lpM_end (.inr ⟨u, HU.out, fun h => hcu h.2⟩)))
          rw [hku] at m0
          have hcb : (u.col == ct) = false := by simpa using hcu
          clear hcu
          go_wp2_with fail
          go_quiet (fail)
          go_wp2
          go_ret
          exact HE.out _
      · have HE := hideL (HFIN.out (lpM_end (.inr ⟨u, HU.out, fun h => hku h.1⟩)))
        have hkb : (u.kd == 3) = false := by simpa using hku
        clear hku
        go_wp2_with fail
        go_quiet (fail)
        go_wp2
        go_ret
        exact HE.out _
    · have h3' : ¬ (q' : Int) < n := by omega
      have hdq : decide ((q' : Int) < n) = false := by simpa using h3'
      have HE := hideL (HFIN.out (lpM_end (.inl (List.getElem?_eq_none (by rw [HLEN.out]; omega)))))
      clear hrg hbw
      go_wp2_with fail
      go_quiet (fail)
      go_wp2
      go_ret
      exact HE.out _
end Go.Proofs.YtmmnpnhffgpchaaGreatDoor

/-
  The document's block: a sequence.
-/
namespace Go.Proofs.YtmmnpnhffgpchaaGreatDoor
open Go.RowKit
set_option linter.unusedVariables false
set_option linter.unusedSimpArgs false
set_option maxRecDepth 100000
set_option maxHeartbeats 32000000 in
theorem block_seq (w : World) (rp : Nat) (a : Option Addr) (n cap : Nat) (L : List Tk) (t : Tk) (q made d f : Nat) (hd : d + f = 16) (h : Rg w rp a n cap L q 0 0 made) (ht : L[q]? = some t) (hm : ¬ made = 4096) (hk : t.kd = 2)
    (ih : ∀ (w : World) (q made : Nat), Rg w rp a n cap L q 0 0 made → q < n → Calls Tryz.prog 37 #[.pointer (some ⟨rp, 0, none⟩), .int .i64 ((d : Int) + 1)] w (RrE w rp a n cap L (blkM L f q made))) :
    Calls Tryz.prog 37 #[.pointer (some ⟨rp, 0, none⟩), .int .i64 d] w (RrE w rp a n cap L (blkM L (f + 1) q made)) := by
  have hqn : q < n := by have := (List.getElem?_eq_some_iff.1 ht).1; have := h.len; omega
  have hqn' : (q : Int) < n := by omega
  have q0 : (0 : Int) ≤ q := by omega
  have hsm := h.small
  have hmd := h.made
  have hrp := h.lt
  have HBM := hideL (blkM_many (f := f) ht hm (by rw [hk]; decide))
  have HVAL : Hid (∀ (W : World) (u : Tk) (q made : Nat), Rg W rp a n cap L q 0 0 made → Calls Tryz.prog 60 #[.pointer (some ⟨rp, 0, none⟩), .agg u.row.toArray, .int .i64 ((d : Int) + 1)] W (RrE W rp a n cap L (valM (blkM L f) (decide (f = 0)) L u q made))) := fun W u q made hW => by
    have := value_any W rp a n cap L u q made (d + 1) f (by omega) (blkM L f) hW (fun w q made h1 h2 => by have := ih w q made h1 h2; rwa [← Int.natCast_one, ← Int.natCast_add] at this)
    rwa [Int.natCast_add] at this
  have HLEN := hideL h.len
  have HSTR := hideL h.ts.str
  have HTQ := hideL ht
  obtain ⟨z0, z1, z2, z3, z4⟩ := h.cells
  rcases h.ts.row with hx | ⟨g, off, rfl, hcc⟩
  · rw [hx] at ht; simp at ht
  have n0 := hcc q t ht 0 _ rfl
  have n1 := hcc q t ht 1 _ rfl
  have n2 := hcc q t ht 2 _ rfl
  have n3 := hcc q t ht 3 _ rfl
  have n4 := hcc q t ht 4 _ rfl
  rw [Nat.add_zero] at n0
  have HR := hideL h
  obtain ⟨R, hR⟩ : ∃ R, blkM L (f + 1) q made = R := ⟨_, rfl⟩
  rw [hR] at HBM ⊢
  obtain ⟨kt, lt, ct, xt, qt⟩ := t
  dsimp only at n0 n1 n2 n3 n4 HBM hk
  have hd16 : ¬ (16 : Int) < d := by omega
  have hm' : ((made : Int) == 4096) = false := by rw [beq_eq_false_iff_ne]; omega
  obtain ⟨V, hV⟩ : ∃ V, valM (blkM L f) (decide (f = 0)) L = V := ⟨_, rfl⟩
  rw [hV] at HBM HVAL
  have HVL : Hid (∀ u q made t q2 m2, V u q made = .ok t q2 m2 → q ≤ q2) := fun u q made t q2 m2 hv => by rw [← hV] at hv; exact valM_le (fun t q2 m2 hb => blkM_le f q made t q2 m2 hb) hv
  clear h ht hcc hR ih hV
  obtain ⟨i58, hi58, hy0, hy1, hy2⟩ := info_parts Tryz.info62
  subst hk
  go_enter Tryz.func37, Tryz.ntmps37
  go_wp2_with fail
  go_region_held3 (fun w' => w'.cell? ⟨rp, 0, none⟩ = some (.slice (some ⟨g, off, none⟩) n cap) ∧ w'.cell? ⟨rp, 1, none⟩ = some (.int .i64 q) ∧ w'.cell? ⟨g, off + q * 5, none⟩ = some (.int .i64 2) ∧ w'.cell? ⟨g, off + q * 5 + 1, none⟩ = some (.int .i64 lt) ∧ w'.cell? ⟨g, off + q * 5 + 2, none⟩ = some (.int .i64 ct) ∧ w'.cell? ⟨g, off + q * 5 + 3, none⟩ = some (.string xt) ∧ w'.cell? ⟨g, off + q * 5 + 4, none⟩ = some (.bool qt)) (go_keep) (fail)
  obtain ⟨W3, hW3⟩ : ∃ W3, (w.alloc (Obj.cells #[.int .i64 2, .int .i64 lt, .int .i64 ct, .string xt, .bool qt] 61)).drew = W3 := ⟨_, rfl⟩
  have hb3 : Below w.heap.size w W3 := by
    rw [← hW3]
    exact ((Below.refl _ _).alloc (Nat.le_refl _) _).trans ⟨rfl, rfl, rfl, Nat.le_refl _, fun _ _ => rfl⟩
  have hk3 : W3.heap[w.heap.size]? = some (.cells #[.int .i64 2, .int .i64 lt, .int .i64 ct, .string xt, .bool qt] 61 (0, 0)) := by rw [← hW3]; exact Go.heap_alloc_new w _
  have hs3 : W3.heap.size = w.heap.size + 1 := by rw [← hW3]; show (w.alloc _).heap.size = _; simp
  have hR3 := HR.out.below hb3
  obtain ⟨z0', z1', z2', z3', z4'⟩ := hR3.cells
  have f4 := hR3.free 4
  have hX4 := hR3.set.2.2.2 (made + 1) (by omega)
  have hbx : But rp w (W3.setCell ⟨rp, 4, none⟩ (.int .i64 ((made + 1 : Nat) : Int))) := (But.of_below hb3).trans (But.set 4 _)
  have hkx : (W3.setCell ⟨rp, 4, none⟩ (.int .i64 ((made + 1 : Nat) : Int))).heap[w.heap.size]? = some (.cells #[.int .i64 2, .int .i64 lt, .int .i64 ct, .string xt, .bool qt] 61 (0, 0)) := by rw [Below.heap_setCell _ _ _ _ (by show w.heap.size ≠ rp; omega)]; exact hk3
  have x0 : W3.cell? ⟨w.heap.size, 0, none⟩ = some (.int .i64 2) := by rw [cell_block hk3]; rfl
  have x1 : W3.cell? ⟨w.heap.size, 1, none⟩ = some (.int .i64 lt) := by rw [cell_block hk3]; rfl
  have y0 : (W3.setCell ⟨rp, 4, none⟩ (.int .i64 ((made : Int) + 1))).cell? ⟨w.heap.size, 0, none⟩ = some (.int .i64 2) := (cell_block hkx 0).trans rfl
  have y1 : (W3.setCell ⟨rp, 4, none⟩ (.int .i64 ((made : Int) + 1))).cell? ⟨w.heap.size, 1, none⟩ = some (.int .i64 lt) := (cell_block hkx 1).trans rfl
  have hBW := Bw.start (W3 := W3) (tk := ⟨2, lt, ct, xt, qt⟩) (kx := 3) hrp hbx hkx (by simp [hs3])
  have hbl : Below (W3.setCell ⟨rp, 4, none⟩ (.int .i64 ((made + 1 : Nat) : Int))).heap.size (W3.setCell ⟨rp, 4, none⟩ (.int .i64 ((made + 1 : Nat) : Int))) ((W3.setCell ⟨rp, 4, none⟩ (.int .i64 ((made + 1 : Nat) : Int))).alloc (.cells #[.int .i64 3, .string ⟨#[]⟩, .string ⟨#[]⟩, .bool false, .int .i64 lt, .slice none 0 0] 95 (0, 0))) := (Below.refl _ _).alloc (Nat.le_refl _) _
  have HRX := hideL (hX4.below hbl)
  have HBW := hideL hBW
  have HRP := hideL hrp
  rw [hW3]
  clear z0 z1 z2 z3 z4 n0 n1 n2 n3 n4 hW3 hb3 hR3 hX4 hbx hkx hBW hbl hk3
  go_wp2_with fail
  go_loopw [8] (fun _ wr => ∃ (k q' made' : Nat) (v : Value) (ts : List Tr) (ps : List Nat), Hid (lpM V L ⟨2, lt, ct, xt, qt⟩ (L.length - q) [] q (made + 1) = lpM V L ⟨2, lt, ct, xt, qt⟩ k ts q' made') ∧ n - q' ≤ k ∧ Rg wr rp (some ⟨g, off, none⟩) n cap L q' 0 0 made' ∧ Bw w wr rp ⟨2, lt, ct, xt, qt⟩ 3 v ts ps ∧ ts.length + q ≤ q') (fun _ wr => n - qOf rp wr)
  case atStart => exact ⟨L.length - q, q, made + 1, _, [], [], rfl, by rw [HLEN.out]; exact Nat.le_refl _, HRX.out, HBW.out, by simp⟩
  case round =>
    obtain ⟨k, q', made', v, ts, ps, HLP, hkq, hrg, hbw, htq⟩ := hrel
    have q0' : (0 : Int) ≤ q' := by omega
    obtain ⟨ao, cp, rfl, _, hic, hcm⟩ := own_form hbw.own
    obtain ⟨z0, z1, z2, z3, z4⟩ := hrg.cells
    have g1 := hrg.free 1
    have b0 : wr.cell? ⟨w.heap.size, 0, none⟩ = some (.int .i64 2) := by rw [cell_block hbw.n]; rfl
    have b2 : wr.cell? ⟨w.heap.size, 2, none⟩ = some (.int .i64 ct) := by rw [cell_block hbw.n]; rfl
    have HRG := hideL hrg
    have HBW2 := hideL hbw
    have hq'n := hrg.q
    have HFIN : Hid (lpM V L ⟨2, lt, ct, xt, qt⟩ k ts q' made' = .ok ts q' made' → ∀ m, RrE w rp (some ⟨g, off, none⟩) n cap L R (.returned (.pointer (some ⟨w.heap.size + 1, 0, none⟩))) (wr.drewN m)) := fun hfin m => by
      rw [HBM.out, HLP.out, hfin]
      have hif : (if (2 : Int) = 2 then (3 : Int) else 2) = 3 := by decide
      refine ⟨_, rfl, ?_, hrg.below (below_drewN (Below.refl _ _) _), hbw.bel.trans (But.of_below (below_drewN (Below.refl _ _) _))⟩
      first | rw [hif] | rw [if_pos trivial]
      exact TrIn.turn (w := wr) (w' := wr.drewN m) (F := fun k => w.heap.size ≤ k ∧ k < wr.heap.size) (F' := fun k => w.heap.size ≤ k ∧ k < (wr.drewN m).heap.size) (fun k hk => hk) (fun k hk => rfl) _ _ hbw.done
    by_cases h3 : q' < n
    · have h3' : (q' : Int) < n := by omega
      rcases hu : L[q']? with _ | u
      · have := List.getElem?_eq_none_iff.1 hu; have := HLEN.out; omega
      have hcell : ∀ (j : Nat) (y : Value), u.row[j]? = some y → wr.cell? ⟨g, off + q' * 5 + j, none⟩ = some y := by
        rcases hrg.ts.row with hx | ⟨g', off', ha, hcc⟩
        · rw [hx] at hu; simp at hu
        · cases ha; exact hcc q' u hu
      have m0 := hcell 0 _ rfl
      have m1 := hcell 1 _ rfl
      have m2 := hcell 2 _ rfl
      have m3 := hcell 3 _ rfl
      have m4 := hcell 4 _ rfl
      rw [Nat.add_zero] at m0
      have HU := hideL hu
      have HUS := hideL (HSTR.out u (List.mem_of_getElem? hu))
      clear hrg hbw hcell hu
      by_cases hku : u.kd = 2
      · by_cases hcu : u.col = ct
        · obtain ⟨k', rfl⟩ : ∃ k', k = k' + 1 := ⟨k - 1, by omega⟩
          obtain ⟨uk, ul, uc, ux, uq⟩ := u
          dsimp only at hku hcu m0 m1 m2 m3 m4 HUS
          subst hku
          subst hcu
          go_wp2_with fail
          go_quiet (fail)
          go_wp2_with fail
          obtain ⟨W5, hW5⟩ : ∃ W5, wr.drewN nq = W5 := ⟨_, rfl⟩
          have hb5 : Below wr.heap.size wr W5 := by rw [← hW5]; exact below_drewN (Below.refl _ _) _
          have HR5 := hideL (HRG.out.below hb5)
          have HBW5 := hideL (HBW2.out.call HRP.out (But.of_below hb5))
          have s0 := cell_of_below hb5 z0
          have s1 := cell_of_below hb5 z1
          have r0 := cell_of_below hb5 m0
          have r1 := cell_of_below hb5 m1
          have r2 := cell_of_below hb5 m2
          have r3 := cell_of_below hb5 m3
          have r4 := cell_of_below hb5 m4
          rw [hW5]
          clear z0 z1 z2 z3 z4 m0 m1 m2 m3 m4 b0 b2 g1 hb5 hW5
          go_region_held3 (fun w' => w'.cell? ⟨rp, 0, none⟩ = some (.slice (some ⟨g, off, none⟩) n cap) ∧ w'.cell? ⟨rp, 1, none⟩ = some (.int .i64 q') ∧ w'.cell? ⟨g, off + q' * 5, none⟩ = some (.int .i64 2) ∧ w'.cell? ⟨g, off + q' * 5 + 1, none⟩ = some (.int .i64 ul) ∧ w'.cell? ⟨g, off + q' * 5 + 2, none⟩ = some (.int .i64 uc) ∧ w'.cell? ⟨g, off + q' * 5 + 3, none⟩ = some (.string ux) ∧ w'.cell? ⟨g, off + q' * 5 + 4, none⟩ = some (.bool uq)) (go_keep) (fail)
          obtain ⟨W6, hW6⟩ : ∃ W6, (W5.alloc (Obj.cells #[.int .i64 2, .int .i64 ul, .int .i64 uc, .string ux, .bool uq] 61)).drew = W6 := ⟨_, rfl⟩
          have hb6 : Below W5.heap.size W5 W6 := by
            rw [← hW6]
            exact ((Below.refl _ _).alloc (Nat.le_refl _) _).trans ⟨rfl, rfl, rfl, Nat.le_refl _, fun _ _ => rfl⟩
          have hk6 : W6.heap[W5.heap.size]? = some (.cells #[.int .i64 2, .int .i64 ul, .int .i64 uc, .string ux, .bool uq] 61 (0, 0)) := by rw [← hW6]; exact Go.heap_alloc_new W5 _
          have hR6 := HR5.out.below hb6
          have HR6 := hideL hR6
          have HBW6 := hideL (HBW5.out.call HRP.out (But.of_below hb6))
          obtain ⟨b5, hb5e⟩ : ∃ b5, W5.heap.size = b5 := ⟨_, rfl⟩
          have hb5r : w.heap.size + 1 < b5 := by rw [← hb5e]; exact (Array.getElem?_eq_some_iff.1 HBW5.out.t).1
          rw [hb5e] at hk6
          have HK6 := hideL hk6
          obtain ⟨z0, z1, z2, z3, z4⟩ := hR6.cells
          have g1 := hR6.free 1
          have u0 : W6.cell? ⟨b5, 0, none⟩ = some (.int .i64 2) := by rw [cell_block hk6]; rfl
          have u1 : W6.cell? ⟨b5, 1, none⟩ = some (.int .i64 ul) := by rw [cell_block hk6]; rfl
          have u3 : W6.cell? ⟨b5, 3, none⟩ = some (.string ux) := by rw [cell_block hk6]; rfl
          have v5 : W6.cell? ⟨w.heap.size + 1, 5, none⟩ = some (.slice ao ts.length cp) := by rw [cell_block HBW6.out.t]; rfl
          have hnx : q' + 1 ≤ n := by omega
          have hX7 := hR6.set.1 (q' + 1) hnx
          have HX7 := hideL hX7
          have HB7 : Hid (But rp W6 (W6.setCell ⟨rp, 1, none⟩ (.int .i64 ((q' : Int) + 1)))) := But.set 1 _
          have HK7 : Hid ((W6.setCell ⟨rp, 1, none⟩ (.int .i64 ((q' : Int) + 1))).heap[b5]? = some (.cells #[.int .i64 2, .int .i64 ul, .int .i64 uc, .string ux, .bool uq] 61 (0, 0))) := (Below.heap_setCell _ _ _ _ (by show b5 ≠ rp; have := HRP.out; omega)).trans hk6
          have a0 := (cell_block HK7.out 0).trans rfl
          have a1 := (cell_block HK7.out 1).trans rfl
          have a2 := (cell_block HK7.out 2).trans rfl
          have a3 := (cell_block HK7.out 3).trans rfl
          have a4 := (cell_block HK7.out 4).trans rfl
          have HV7 := hideL (HVAL.out (W6.setCell ⟨rp, 1, none⟩ (.int .i64 ((q' : Int) + 1))) ⟨2, ul, uc, ux, uq⟩ (q' + 1) made' hX7)
          rw [hW6, hb5e]
          clear s0 s1 r0 r1 r2 r3 r4 hW6 hb6 hk6 hR6 hX7 HR5 HBW5
          have HN3 : Hid (¬ (2 : Int) = 3) := by show ¬ (2 : Int) = 3; decide
          have HTL : Hid (ts.length + q ≤ q') := htq
          go_wp2_with fail
          refine HV7.out.mono ?_
          rintro e w8 hE
          rcases hv : V ⟨2, ul, uc, ux, uq⟩ (q' + 1) made' with ⟨v, q2, m2⟩ | ⟨l, er, q2, m2⟩
          · rw [hv] at hE
            obtain ⟨p, rfl, hT, hR8, hB8⟩ := hE
            have hq2 := HVL.out _ _ _ _ _ _ hv
            have HSTEP : Hid (lpM V L ⟨2, lt, uc, xt, qt⟩ (k' + 1) ts q' made' = lpM V L ⟨2, lt, uc, xt, qt⟩ k' (ts ++ [v.withKey (ByteArray.mk #[])]) q2 m2) := by
              show _ = _
              have := lpM_step (acc := ts) (k := k') (t0 := ⟨2, lt, uc, xt, qt⟩) HU.out rfl rfl (fun h => HN3.out h.1) hv
              rw [this, if_neg HN3.out]; rfl
            have hpl := hT.cells.2.2
            have zp := hT.cells.1
            obtain ⟨zf, hTk⟩ := hT.rekey (ByteArray.mk #[]) (by decide)
            have hs7 : (W6.setCell ⟨rp, 1, none⟩ (.int .i64 ((q' : Int) + 1))).heap.size = W6.heap.size := by simp
            have hp7 : W6.heap.size ≤ p ∧ p < w8.heap.size := by rw [hs7] at hpl; exact hpl
            have hB9 : But rp W6 (w8.setCell ⟨p, 1, none⟩ (.string ⟨#[]⟩)) := by
              have hb := HB7.out.trans hB8
              exact ⟨hb.os, hb.tape, hb.output, by have := hb.size; simpa using this, fun j hj hne => (Below.heap_setCell _ _ _ _ (by show j ≠ p; omega)).trans (hb.block j hj hne)⟩
            have hrlt := HR6.out.lt
            have htl := HR6.out.ts.lt
            have hR9 : Rg (w8.setCell ⟨p, 1, none⟩ (.string ⟨#[]⟩)) rp (some ⟨g, off, none⟩) n cap L q2 0 0 m2 := hR8.keep (Below.heap_setCell _ _ _ _ (by show rp ≠ p; omega)) (fun x hx hne => Below.heap_setCell _ _ _ _ (by have := htl x hx hne; show x.block ≠ p; omega))
            have HBW9 := hideL (HBW6.out.call HRP.out hB9)
            have HT9 : Hid (TrIn (w8.setCell ⟨p, 1, none⟩ (.string ⟨#[]⟩)) (fun k => W6.heap.size ≤ k ∧ k < (w8.setCell ⟨p, 1, none⟩ (.string ⟨#[]⟩)).heap.size) (v.withKey (ByteArray.mk #[])) p) := TrIn.turn (fun k hk => by rw [hs7] at hk; refine ⟨hk.1, ?_⟩; simpa using hk.2) (fun k hk => rfl) _ _ hTk
            have HR9 := hideL hR9
            have HSZ9 : Hid (W6.heap.size ≤ (w8.setCell ⟨p, 1, none⟩ (.string ⟨#[]⟩)).heap.size) := hB9.size
            have HWS6 : Hid (w.heap.size + 1 < W6.heap.size) := (Array.getElem?_eq_some_iff.1 HBW6.out.t).1
            have HRL6 : Hid (∀ r, (Value.slice ao ts.length cp).ownBlock = some r → r < W6.heap.size) := fun r hr => (HBW6.out.own.lt r hr).2
            have v59 : (w8.setCell ⟨p, 1, none⟩ (.string ⟨#[]⟩)).cell? ⟨w.heap.size + 1, 5, none⟩ = some (.slice ao ts.length cp) := by rw [cell_block HBW9.out.t]; rfl
            have HOA : Hid (((w8.setCell ⟨p, 1, none⟩ (.string ⟨#[]⟩)).alloc (.cells #[.pointer (some ⟨p, 0, none⟩)] 62)).ownsRow 0 62 1 (.slice ao ts.length cp) ts.length (ptrs ps)) := HBW9.out.own.alloc _
            have hs9 : (w8.setCell ⟨p, 1, none⟩ (.string ⟨#[]⟩)).heap.size = w8.heap.size := by simp
            have HNX : Hid (∀ j y, [Value.pointer (some ⟨p, 0, none⟩)][j]? = some y → ((w8.setCell ⟨p, 1, none⟩ (.string ⟨#[]⟩)).alloc (.cells #[.pointer (some ⟨p, 0, none⟩)] 62)).cell? ((⟨w8.heap.size, 0, none⟩ : Addr).add j) = some y) := by
              have h1 := World.news_of_block (Go.heap_alloc_new (w8.setCell ⟨p, 1, none⟩ (.string ⟨#[]⟩)) (.cells #[.pointer (some ⟨p, 0, none⟩)] 62))
              rw [hs9] at h1
              exact h1
            have HRN : Hid (∀ w3 v3, ((w8.setCell ⟨p, 1, none⟩ (.string ⟨#[]⟩)).alloc (.cells #[.pointer (some ⟨p, 0, none⟩)] 62)).grownBy w3 (Value.slice ao ts.length cp).ownBlock → Rg (w3.setCell ⟨w.heap.size + 1, 5, none⟩ v3) rp (some ⟨g, off, none⟩) n cap L q2 0 0 m2) := fun w3 v3 hg3 => by
              have hlow : ∀ j, j < w.heap.size → (w3.setCell ⟨w.heap.size + 1, 5, none⟩ v3).heap[j]? = (w8.setCell ⟨p, 1, none⟩ (.string ⟨#[]⟩)).heap[j]? := fun j hj => by
                have h9 := HSZ9.out
                have h6 := HWS6.out
                rw [Below.heap_setCell _ _ _ _ (by show j ≠ w.heap.size + 1; omega), hg3.block j (by simp; omega) (fun e => by have := HBW9.out.far j e.symm; omega)]
                exact Below.heap_alloc _ _ j (by omega)
              exact HR9.out.keep (hlow rp HRP.out) (fun x hx hne => hlow _ (HR.out.ts.lt x hx hne))
            have hbm : ts.length + 1 ≤ maxLen := by unfold maxLen; omega
            have hbj : (ts.length + 1) * 8 ≤ 140737488355328 := by omega
            clear hv hT hR8 hB8 hTk hB9 hR9 hs7 hs9
            go_wp2_with (at_builtin; refine wpList_append_at _ rfl (.tmp 173) (.tmp 175) 93 rfl 0 62 i58 (.pointer none) 1 8 Tryz.underlying93 hi58 hy0 hy1 hy2 rfl (by decide) _ ts.length (ptrs ps) rfl HOA.out ⟨w8.heap.size, 0, none⟩ 1 1 [.pointer (some ⟨p, 0, none⟩)] rfl rfl HNX.out (by intro y hy; simp at hy; subst hy; rfl) hbm hbj (Nat.zero_le _) ?_; intro v3 w3 hown3 hgrow3 hat3; obtain ⟨x3, f3, G3⟩ := Bw.app (mm := 0) HBW9.out HT9.out HWS6.out HRL6.out rfl hown3 hgrow3 hat3; have HG3 := hideL G3; have HRN3 := hideL (HRN.out w3 v3 hgrow3); obtain ⟨a3, c3, rfl, _⟩ := own_form hown3; clear hown3 hgrow3 hat3 G3)
            go_roundw
            case rel => exact ⟨k', q2, m2, _, ts ++ [v.withKey (ByteArray.mk #[])], ps ++ [p], HLP.out.trans HSTEP.out, by omega, HRN3.out, HG3.out, by simp; omega⟩
            case measure => rw [HRN3.out.qOf, HRG.out.qOf]; omega
          · rw [hv] at hE
            obtain ⟨rfl, hR8, hB8⟩ := hE
            have HQ : Hid (R = .bad l er q2 m2) := by
              show _ = _
              rw [HBM.out, HLP.out, lpM_bad (acc := ts) (t0 := ⟨2, lt, uc, xt, qt⟩) HU.out rfl rfl (fun h => HN3.out h.1) hv]
            clear hv
            go_wp2
            go_ret
            rw [HQ.out]
            exact ⟨rfl, hR8, (HBW6.out.bel.trans HB7.out).trans hB8⟩
        · have HE := hideL (HFIN.out (lpM_end (.inr ⟨u, HU.out, fun h => hcu h.2⟩)))
          rw [hku] at m0
          have hcb : (u.col == ct) = false := by simpa using hcu
          clear hcu
          go_wp2_with fail
          go_quiet (fail)
          go_wp2
          go_ret
          exact HE.out _
      · have HE := hideL (HFIN.out (lpM_end (.inr ⟨u, HU.out, fun h => hku h.1⟩)))
        have hkb : (u.kd == 2) = false := by simpa using hku
        clear hku
        go_wp2_with fail
        go_quiet (fail)
        go_wp2
        go_ret
        exact HE.out _
    · have h3' : ¬ (q' : Int) < n := by omega
      have hdq : decide ((q' : Int) < n) = false := by simpa using h3'
      have HE := hideL (HFIN.out (lpM_end (.inl (List.getElem?_eq_none (by rw [HLEN.out]; omega)))))
      clear hrg hbw
      go_wp2_with fail
      go_quiet (fail)
      go_wp2
      go_ret
      exact HE.out _
end Go.Proofs.YtmmnpnhffgpchaaGreatDoor

/-
  The document's block: a token of no kind.
-/
namespace Go.Proofs.YtmmnpnhffgpchaaGreatDoor
open Go.RowKit
set_option linter.unusedVariables false
set_option linter.unusedSimpArgs false
set_option maxRecDepth 100000
set_option maxHeartbeats 32000000 in
theorem block_odd (w : World) (rp : Nat) (a : Option Addr) (n cap : Nat) (L : List Tk) (t : Tk) (q made d f : Nat) (hd : d + f = 16) (h : Rg w rp a n cap L q 0 0 made) (ht : L[q]? = some t) (hm : ¬ made = 4096) (hk : ¬ t.kd = 2 ∧ ¬ t.kd = 3 ∧ ¬ t.kd = 4)
    (ih : ∀ (w : World) (q made : Nat), Rg w rp a n cap L q 0 0 made → q < n → Calls Tryz.prog 37 #[.pointer (some ⟨rp, 0, none⟩), .int .i64 ((d : Int) + 1)] w (RrE w rp a n cap L (blkM L f q made))) :
    Calls Tryz.prog 37 #[.pointer (some ⟨rp, 0, none⟩), .int .i64 d] w (RrE w rp a n cap L (blkM L (f + 1) q made)) := by
  have hqn : q < n := by have := (List.getElem?_eq_some_iff.1 ht).1; have := h.len; omega
  have hqn' : (q : Int) < n := by omega
  have q0 : (0 : Int) ≤ q := by omega
  have hsm := h.small
  have hmd := h.made
  have hrp := h.lt
  have HBM := hideL (blkM_many (f := f) ht hm (by exact hk.2.2))
  have HVAL : Hid (∀ (W : World) (u : Tk) (q made : Nat), Rg W rp a n cap L q 0 0 made → Calls Tryz.prog 60 #[.pointer (some ⟨rp, 0, none⟩), .agg u.row.toArray, .int .i64 ((d : Int) + 1)] W (RrE W rp a n cap L (valM (blkM L f) (decide (f = 0)) L u q made))) := fun W u q made hW => by
    have := value_any W rp a n cap L u q made (d + 1) f (by omega) (blkM L f) hW (fun w q made h1 h2 => by have := ih w q made h1 h2; rwa [← Int.natCast_one, ← Int.natCast_add] at this)
    rwa [Int.natCast_add] at this
  have HLEN := hideL h.len
  have HSTR := hideL h.ts.str
  have HTQ := hideL ht
  obtain ⟨z0, z1, z2, z3, z4⟩ := h.cells
  rcases h.ts.row with hx | ⟨g, off, rfl, hcc⟩
  · rw [hx] at ht; simp at ht
  have n0 := hcc q t ht 0 _ rfl
  have n1 := hcc q t ht 1 _ rfl
  have n2 := hcc q t ht 2 _ rfl
  have n3 := hcc q t ht 3 _ rfl
  have n4 := hcc q t ht 4 _ rfl
  rw [Nat.add_zero] at n0
  have HR := hideL h
  obtain ⟨R, hR⟩ : ∃ R, blkM L (f + 1) q made = R := ⟨_, rfl⟩
  rw [hR] at HBM ⊢
  obtain ⟨kt, lt, ct, xt, qt⟩ := t
  dsimp only at n0 n1 n2 n3 n4 HBM hk
  have hd16 : ¬ (16 : Int) < d := by omega
  have hm' : ((made : Int) == 4096) = false := by rw [beq_eq_false_iff_ne]; omega
  obtain ⟨V, hV⟩ : ∃ V, valM (blkM L f) (decide (f = 0)) L = V := ⟨_, rfl⟩
  rw [hV] at HBM HVAL
  have HVL : Hid (∀ u q made t q2 m2, V u q made = .ok t q2 m2 → q ≤ q2) := fun u q made t q2 m2 hv => by rw [← hV] at hv; exact valM_le (fun t q2 m2 hb => blkM_le f q made t q2 m2 hb) hv
  clear h ht hcc hR ih hV
  obtain ⟨i58, hi58, hy0, hy1, hy2⟩ := info_parts Tryz.info62
  have k2 : (kt == 2) = false := by simpa using hk.1
  have k3 : (kt == 3) = false := by simpa using hk.2.1
  have k4 : (kt == 4) = false := by simpa using hk.2.2
  go_enter Tryz.func37, Tryz.ntmps37
  go_wp2_with fail
  go_region_held3 (fun w' => w'.cell? ⟨rp, 0, none⟩ = some (.slice (some ⟨g, off, none⟩) n cap) ∧ w'.cell? ⟨rp, 1, none⟩ = some (.int .i64 q) ∧ w'.cell? ⟨g, off + q * 5, none⟩ = some (.int .i64 kt) ∧ w'.cell? ⟨g, off + q * 5 + 1, none⟩ = some (.int .i64 lt) ∧ w'.cell? ⟨g, off + q * 5 + 2, none⟩ = some (.int .i64 ct) ∧ w'.cell? ⟨g, off + q * 5 + 3, none⟩ = some (.string xt) ∧ w'.cell? ⟨g, off + q * 5 + 4, none⟩ = some (.bool qt)) (go_keep) (fail)
  obtain ⟨W3, hW3⟩ : ∃ W3, (w.alloc (Obj.cells #[.int .i64 kt, .int .i64 lt, .int .i64 ct, .string xt, .bool qt] 61)).drew = W3 := ⟨_, rfl⟩
  have hb3 : Below w.heap.size w W3 := by
    rw [← hW3]
    exact ((Below.refl _ _).alloc (Nat.le_refl _) _).trans ⟨rfl, rfl, rfl, Nat.le_refl _, fun _ _ => rfl⟩
  have hk3 : W3.heap[w.heap.size]? = some (.cells #[.int .i64 kt, .int .i64 lt, .int .i64 ct, .string xt, .bool qt] 61 (0, 0)) := by rw [← hW3]; exact Go.heap_alloc_new w _
  have hs3 : W3.heap.size = w.heap.size + 1 := by rw [← hW3]; show (w.alloc _).heap.size = _; simp
  have hR3 := HR.out.below hb3
  obtain ⟨z0', z1', z2', z3', z4'⟩ := hR3.cells
  have f4 := hR3.free 4
  have hX4 := hR3.set.2.2.2 (made + 1) (by omega)
  have hbx : But rp w (W3.setCell ⟨rp, 4, none⟩ (.int .i64 ((made + 1 : Nat) : Int))) := (But.of_below hb3).trans (But.set 4 _)
  have hkx : (W3.setCell ⟨rp, 4, none⟩ (.int .i64 ((made + 1 : Nat) : Int))).heap[w.heap.size]? = some (.cells #[.int .i64 kt, .int .i64 lt, .int .i64 ct, .string xt, .bool qt] 61 (0, 0)) := by rw [Below.heap_setCell _ _ _ _ (by show w.heap.size ≠ rp; omega)]; exact hk3
  have x0 : W3.cell? ⟨w.heap.size, 0, none⟩ = some (.int .i64 kt) := by rw [cell_block hk3]; rfl
  have x1 : W3.cell? ⟨w.heap.size, 1, none⟩ = some (.int .i64 lt) := by rw [cell_block hk3]; rfl
  have y0 : (W3.setCell ⟨rp, 4, none⟩ (.int .i64 ((made : Int) + 1))).cell? ⟨w.heap.size, 0, none⟩ = some (.int .i64 kt) := (cell_block hkx 0).trans rfl
  have y1 : (W3.setCell ⟨rp, 4, none⟩ (.int .i64 ((made : Int) + 1))).cell? ⟨w.heap.size, 1, none⟩ = some (.int .i64 lt) := (cell_block hkx 1).trans rfl
  have hBW := Bw.start (W3 := W3) (tk := ⟨kt, lt, ct, xt, qt⟩) (kx := 2) hrp hbx hkx (by simp [hs3])
  have hbl : Below (W3.setCell ⟨rp, 4, none⟩ (.int .i64 ((made + 1 : Nat) : Int))).heap.size (W3.setCell ⟨rp, 4, none⟩ (.int .i64 ((made + 1 : Nat) : Int))) ((W3.setCell ⟨rp, 4, none⟩ (.int .i64 ((made + 1 : Nat) : Int))).alloc (.cells #[.int .i64 2, .string ⟨#[]⟩, .string ⟨#[]⟩, .bool false, .int .i64 lt, .slice none 0 0] 95 (0, 0))) := (Below.refl _ _).alloc (Nat.le_refl _) _
  have HRX := hideL (hX4.below hbl)
  have HBW := hideL hBW
  have HRP := hideL hrp
  rw [hW3]
  clear z0 z1 z2 z3 z4 n0 n1 n2 n3 n4 hW3 hb3 hR3 hX4 hbx hkx hBW hbl hk3
  go_wp2_with fail
  go_loopw [8] (fun _ wr => ∃ (k q' made' : Nat) (v : Value) (ts : List Tr) (ps : List Nat), Hid (lpM V L ⟨kt, lt, ct, xt, qt⟩ (L.length - q) [] q (made + 1) = lpM V L ⟨kt, lt, ct, xt, qt⟩ k ts q' made') ∧ n - q' ≤ k ∧ Rg wr rp (some ⟨g, off, none⟩) n cap L q' 0 0 made' ∧ Bw w wr rp ⟨kt, lt, ct, xt, qt⟩ 2 v ts ps ∧ ts.length + q ≤ q') (fun _ wr => n - qOf rp wr)
  case atStart => exact ⟨L.length - q, q, made + 1, _, [], [], rfl, by rw [HLEN.out]; exact Nat.le_refl _, HRX.out, HBW.out, by simp⟩
  case round =>
    obtain ⟨k, q', made', v, ts, ps, HLP, hkq, hrg, hbw, htq⟩ := hrel
    have q0' : (0 : Int) ≤ q' := by omega
    obtain ⟨ao, cp, rfl, _, hic, hcm⟩ := own_form hbw.own
    obtain ⟨z0, z1, z2, z3, z4⟩ := hrg.cells
    have g1 := hrg.free 1
    have b0 : wr.cell? ⟨w.heap.size, 0, none⟩ = some (.int .i64 kt) := by rw [cell_block hbw.n]; rfl
    have b2 : wr.cell? ⟨w.heap.size, 2, none⟩ = some (.int .i64 ct) := by rw [cell_block hbw.n]; rfl
    have HRG := hideL hrg
    have HBW2 := hideL hbw
    have hq'n := hrg.q
    have HFIN : Hid (lpM V L ⟨kt, lt, ct, xt, qt⟩ k ts q' made' = .ok ts q' made' → ∀ m, RrE w rp (some ⟨g, off, none⟩) n cap L R (.returned (.pointer (some ⟨w.heap.size + 1, 0, none⟩))) (wr.drewN m)) := fun hfin m => by
      rw [HBM.out, HLP.out, hfin]
      have hif : (if (kt : Int) = 2 then (3 : Int) else 2) = 2 := by rw [if_neg hk.1]
      refine ⟨_, rfl, ?_, hrg.below (below_drewN (Below.refl _ _) _), hbw.bel.trans (But.of_below (below_drewN (Below.refl _ _) _))⟩
      first | rw [hif] | rw [if_pos trivial]
      exact TrIn.turn (w := wr) (w' := wr.drewN m) (F := fun k => w.heap.size ≤ k ∧ k < wr.heap.size) (F' := fun k => w.heap.size ≤ k ∧ k < (wr.drewN m).heap.size) (fun k hk => hk) (fun k hk => rfl) _ _ hbw.done
    by_cases h3 : q' < n
    · have h3' : (q' : Int) < n := by omega
      rcases hu : L[q']? with _ | u
      · have := List.getElem?_eq_none_iff.1 hu; have := HLEN.out; omega
      have hcell : ∀ (j : Nat) (y : Value), u.row[j]? = some y → wr.cell? ⟨g, off + q' * 5 + j, none⟩ = some y := by
        rcases hrg.ts.row with hx | ⟨g', off', ha, hcc⟩
        · rw [hx] at hu; simp at hu
        · cases ha; exact hcc q' u hu
      have m0 := hcell 0 _ rfl
      have m1 := hcell 1 _ rfl
      have m2 := hcell 2 _ rfl
      have m3 := hcell 3 _ rfl
      have m4 := hcell 4 _ rfl
      rw [Nat.add_zero] at m0
      have HU := hideL hu
      have HUS := hideL (HSTR.out u (List.mem_of_getElem? hu))
      clear hrg hbw hcell hu
      by_cases hku : u.kd = kt
      · by_cases hcu : u.col = ct
        · obtain ⟨k', rfl⟩ : ∃ k', k = k' + 1 := ⟨k - 1, by omega⟩
          obtain ⟨uk, ul, uc, ux, uq⟩ := u
          dsimp only at hku hcu m0 m1 m2 m3 m4 HUS
          have hku := hku.symm; subst hku
          subst hcu
          go_wp2_with fail
          go_quiet (fail)
          go_wp2_with fail
          obtain ⟨W5, hW5⟩ : ∃ W5, wr.drewN nq = W5 := ⟨_, rfl⟩
          have hb5 : Below wr.heap.size wr W5 := by rw [← hW5]; exact below_drewN (Below.refl _ _) _
          have HR5 := hideL (HRG.out.below hb5)
          have HBW5 := hideL (HBW2.out.call HRP.out (But.of_below hb5))
          have s0 := cell_of_below hb5 z0
          have s1 := cell_of_below hb5 z1
          have r0 := cell_of_below hb5 m0
          have r1 := cell_of_below hb5 m1
          have r2 := cell_of_below hb5 m2
          have r3 := cell_of_below hb5 m3
          have r4 := cell_of_below hb5 m4
          rw [hW5]
          clear z0 z1 z2 z3 z4 m0 m1 m2 m3 m4 b0 b2 g1 hb5 hW5
          go_region_held3 (fun w' => w'.cell? ⟨rp, 0, none⟩ = some (.slice (some ⟨g, off, none⟩) n cap) ∧ w'.cell? ⟨rp, 1, none⟩ = some (.int .i64 q') ∧ w'.cell? ⟨g, off + q' * 5, none⟩ = some (.int .i64 kt) ∧ w'.cell? ⟨g, off + q' * 5 + 1, none⟩ = some (.int .i64 ul) ∧ w'.cell? ⟨g, off + q' * 5 + 2, none⟩ = some (.int .i64 uc) ∧ w'.cell? ⟨g, off + q' * 5 + 3, none⟩ = some (.string ux) ∧ w'.cell? ⟨g, off + q' * 5 + 4, none⟩ = some (.bool uq)) (go_keep) (fail)
          obtain ⟨W6, hW6⟩ : ∃ W6, (W5.alloc (Obj.cells #[.int .i64 kt, .int .i64 ul, .int .i64 uc, .string ux, .bool uq] 61)).drew = W6 := ⟨_, rfl⟩
          have hb6 : Below W5.heap.size W5 W6 := by
            rw [← hW6]
            exact ((Below.refl _ _).alloc (Nat.le_refl _) _).trans ⟨rfl, rfl, rfl, Nat.le_refl _, fun _ _ => rfl⟩
          have hk6 : W6.heap[W5.heap.size]? = some (.cells #[.int .i64 kt, .int .i64 ul, .int .i64 uc, .string ux, .bool uq] 61 (0, 0)) := by rw [← hW6]; exact Go.heap_alloc_new W5 _
          have hR6 := HR5.out.below hb6
          have HR6 := hideL hR6
          have HBW6 := hideL (HBW5.out.call HRP.out (But.of_below hb6))
          obtain ⟨b5, hb5e⟩ : ∃ b5, W5.heap.size = b5 := ⟨_, rfl⟩
          have hb5r : w.heap.size + 1 < b5 := by rw [← hb5e]; exact (Array.getElem?_eq_some_iff.1 HBW5.out.t).1
          rw [hb5e] at hk6
          have HK6 := hideL hk6
          obtain ⟨z0, z1, z2, z3, z4⟩ := hR6.cells
          have g1 := hR6.free 1
          have u0 : W6.cell? ⟨b5, 0, none⟩ = some (.int .i64 kt) := by rw [cell_block hk6]; rfl
          have u1 : W6.cell? ⟨b5, 1, none⟩ = some (.int .i64 ul) := by rw [cell_block hk6]; rfl
          have u3 : W6.cell? ⟨b5, 3, none⟩ = some (.string ux) := by rw [cell_block hk6]; rfl
          have v5 : W6.cell? ⟨w.heap.size + 1, 5, none⟩ = some (.slice ao ts.length cp) := by rw [cell_block HBW6.out.t]; rfl
          have hnx : q' + 1 ≤ n := by omega
          have hX7 := hR6.set.1 (q' + 1) hnx
          have HX7 := hideL hX7
          have HB7 : Hid (But rp W6 (W6.setCell ⟨rp, 1, none⟩ (.int .i64 ((q' : Int) + 1)))) := But.set 1 _
          have HK7 : Hid ((W6.setCell ⟨rp, 1, none⟩ (.int .i64 ((q' : Int) + 1))).heap[b5]? = some (.cells #[.int .i64 kt, .int .i64 ul, .int .i64 uc, .string ux, .bool uq] 61 (0, 0))) := (Below.heap_setCell _ _ _ _ (by show b5 ≠ rp; have := HRP.out; omega)).trans hk6
          have a0 := (cell_block HK7.out 0).trans rfl
          have a1 := (cell_block HK7.out 1).trans rfl
          have a2 := (cell_block HK7.out 2).trans rfl
          have a3 := (cell_block HK7.out 3).trans rfl
          have a4 := (cell_block HK7.out 4).trans rfl
          have HV7 := hideL (HVAL.out (W6.setCell ⟨rp, 1, none⟩ (.int .i64 ((q' : Int) + 1))) ⟨kt, ul, uc, ux, uq⟩ (q' + 1) made' hX7)
          rw [hW6, hb5e]
          clear s0 s1 r0 r1 r2 r3 r4 hW6 hb6 hk6 hR6 hX7 HR5 HBW5
          have HN3 : Hid (¬ (kt : Int) = 3) := by exact hk.2.1
          have HTL : Hid (ts.length + q ≤ q') := htq
          go_wp2_with fail
          refine HV7.out.mono ?_
          rintro e w8 hE
          rcases hv : V ⟨kt, ul, uc, ux, uq⟩ (q' + 1) made' with ⟨v, q2, m2⟩ | ⟨l, er, q2, m2⟩
          · rw [hv] at hE
            obtain ⟨p, rfl, hT, hR8, hB8⟩ := hE
            have hq2 := HVL.out _ _ _ _ _ _ hv
            have HSTEP : Hid (lpM V L ⟨kt, lt, uc, xt, qt⟩ (k' + 1) ts q' made' = lpM V L ⟨kt, lt, uc, xt, qt⟩ k' (ts ++ [v.withKey (ByteArray.mk #[])]) q2 m2) := by
              show _ = _
              have := lpM_step (acc := ts) (k := k') (t0 := ⟨kt, lt, uc, xt, qt⟩) HU.out rfl rfl (fun h => HN3.out h.1) hv
              rw [this, if_neg HN3.out]; rfl
            have hpl := hT.cells.2.2
            have zp := hT.cells.1
            obtain ⟨zf, hTk⟩ := hT.rekey (ByteArray.mk #[]) (by decide)
            have hs7 : (W6.setCell ⟨rp, 1, none⟩ (.int .i64 ((q' : Int) + 1))).heap.size = W6.heap.size := by simp
            have hp7 : W6.heap.size ≤ p ∧ p < w8.heap.size := by rw [hs7] at hpl; exact hpl
            have hB9 : But rp W6 (w8.setCell ⟨p, 1, none⟩ (.string ⟨#[]⟩)) := by
              have hb := HB7.out.trans hB8
              exact ⟨hb.os, hb.tape, hb.output, by have := hb.size; simpa using this, fun j hj hne => (Below.heap_setCell _ _ _ _ (by show j ≠ p; omega)).trans (hb.block j hj hne)⟩
            have hrlt := HR6.out.lt
            have htl := HR6.out.ts.lt
            have hR9 : Rg (w8.setCell ⟨p, 1, none⟩ (.string ⟨#[]⟩)) rp (some ⟨g, off, none⟩) n cap L q2 0 0 m2 := hR8.keep (Below.heap_setCell _ _ _ _ (by show rp ≠ p; omega)) (fun x hx hne => Below.heap_setCell _ _ _ _ (by have := htl x hx hne; show x.block ≠ p; omega))
            have HBW9 := hideL (HBW6.out.call HRP.out hB9)
            have HT9 : Hid (TrIn (w8.setCell ⟨p, 1, none⟩ (.string ⟨#[]⟩)) (fun k => W6.heap.size ≤ k ∧ k < (w8.setCell ⟨p, 1, none⟩ (.string ⟨#[]⟩)).heap.size) (v.withKey (ByteArray.mk #[])) p) := TrIn.turn (fun k hk => by rw [hs7] at hk; refine ⟨hk.1, ?_⟩; simpa using hk.2) (fun k hk => rfl) _ _ hTk
            have HR9 := hideL hR9
            have HSZ9 : Hid (W6.heap.size ≤ (w8.setCell ⟨p, 1, none⟩ (.string ⟨#[]⟩)).heap.size) := hB9.size
            have HWS6 : Hid (w.heap.size + 1 < W6.heap.size) := (Array.getElem?_eq_some_iff.1 HBW6.out.t).1
            have HRL6 : Hid (∀ r, (Value.slice ao ts.length cp).ownBlock = some r → r < W6.heap.size) := fun r hr => (HBW6.out.own.lt r hr).2
            have v59 : (w8.setCell ⟨p, 1, none⟩ (.string ⟨#[]⟩)).cell? ⟨w.heap.size + 1, 5, none⟩ = some (.slice ao ts.length cp) := by rw [cell_block HBW9.out.t]; rfl
            have HOA : Hid (((w8.setCell ⟨p, 1, none⟩ (.string ⟨#[]⟩)).alloc (.cells #[.pointer (some ⟨p, 0, none⟩)] 62)).ownsRow 0 62 1 (.slice ao ts.length cp) ts.length (ptrs ps)) := HBW9.out.own.alloc _
            have hs9 : (w8.setCell ⟨p, 1, none⟩ (.string ⟨#[]⟩)).heap.size = w8.heap.size := by simp
            have HNX : Hid (∀ j y, [Value.pointer (some ⟨p, 0, none⟩)][j]? = some y → ((w8.setCell ⟨p, 1, none⟩ (.string ⟨#[]⟩)).alloc (.cells #[.pointer (some ⟨p, 0, none⟩)] 62)).cell? ((⟨w8.heap.size, 0, none⟩ : Addr).add j) = some y) := by
              have h1 := World.news_of_block (Go.heap_alloc_new (w8.setCell ⟨p, 1, none⟩ (.string ⟨#[]⟩)) (.cells #[.pointer (some ⟨p, 0, none⟩)] 62))
              rw [hs9] at h1
              exact h1
            have HRN : Hid (∀ w3 v3, ((w8.setCell ⟨p, 1, none⟩ (.string ⟨#[]⟩)).alloc (.cells #[.pointer (some ⟨p, 0, none⟩)] 62)).grownBy w3 (Value.slice ao ts.length cp).ownBlock → Rg (w3.setCell ⟨w.heap.size + 1, 5, none⟩ v3) rp (some ⟨g, off, none⟩) n cap L q2 0 0 m2) := fun w3 v3 hg3 => by
              have hlow : ∀ j, j < w.heap.size → (w3.setCell ⟨w.heap.size + 1, 5, none⟩ v3).heap[j]? = (w8.setCell ⟨p, 1, none⟩ (.string ⟨#[]⟩)).heap[j]? := fun j hj => by
                have h9 := HSZ9.out
                have h6 := HWS6.out
                rw [Below.heap_setCell _ _ _ _ (by show j ≠ w.heap.size + 1; omega), hg3.block j (by simp; omega) (fun e => by have := HBW9.out.far j e.symm; omega)]
                exact Below.heap_alloc _ _ j (by omega)
              exact HR9.out.keep (hlow rp HRP.out) (fun x hx hne => hlow _ (HR.out.ts.lt x hx hne))
            have hbm : ts.length + 1 ≤ maxLen := by unfold maxLen; omega
            have hbj : (ts.length + 1) * 8 ≤ 140737488355328 := by omega
            clear hv hT hR8 hB8 hTk hB9 hR9 hs7 hs9
            go_wp2_with (at_builtin; refine wpList_append_at _ rfl (.tmp 173) (.tmp 175) 93 rfl 0 62 i58 (.pointer none) 1 8 Tryz.underlying93 hi58 hy0 hy1 hy2 rfl (by decide) _ ts.length (ptrs ps) rfl HOA.out ⟨w8.heap.size, 0, none⟩ 1 1 [.pointer (some ⟨p, 0, none⟩)] rfl rfl HNX.out (by intro y hy; simp at hy; subst hy; rfl) hbm hbj (Nat.zero_le _) ?_; intro v3 w3 hown3 hgrow3 hat3; obtain ⟨x3, f3, G3⟩ := Bw.app (mm := 0) HBW9.out HT9.out HWS6.out HRL6.out rfl hown3 hgrow3 hat3; have HG3 := hideL G3; have HRN3 := hideL (HRN.out w3 v3 hgrow3); obtain ⟨a3, c3, rfl, _⟩ := own_form hown3; clear hown3 hgrow3 hat3 G3)
            go_roundw
            case rel => exact ⟨k', q2, m2, _, ts ++ [v.withKey (ByteArray.mk #[])], ps ++ [p], HLP.out.trans HSTEP.out, by omega, HRN3.out, HG3.out, by simp; omega⟩
            case measure => rw [HRN3.out.qOf, HRG.out.qOf]; omega
          · rw [hv] at hE
            obtain ⟨rfl, hR8, hB8⟩ := hE
            have HQ : Hid (R = .bad l er q2 m2) := by
              show _ = _
              rw [HBM.out, HLP.out, lpM_bad (acc := ts) (t0 := ⟨kt, lt, uc, xt, qt⟩) HU.out rfl rfl (fun h => HN3.out h.1) hv]
            clear hv
            go_wp2
            go_ret
            rw [HQ.out]
            exact ⟨rfl, hR8, (HBW6.out.bel.trans HB7.out).trans hB8⟩
        · have HE := hideL (HFIN.out (lpM_end (.inr ⟨u, HU.out, fun h => hcu h.2⟩)))
          rw [hku] at m0
          have hcb : (u.col == ct) = false := by simpa using hcu
          clear hcu
          go_wp2_with fail
          go_quiet (fail)
          go_wp2
          go_ret
          exact HE.out _
      · have HE := hideL (HFIN.out (lpM_end (.inr ⟨u, HU.out, fun h => hku h.1⟩)))
        have hkb : (u.kd == kt) = false := by simpa using hku
        clear hku
        go_wp2_with fail
        go_quiet (fail)
        go_wp2
        go_ret
        exact HE.out _
    · have h3' : ¬ (q' : Int) < n := by omega
      have hdq : decide ((q' : Int) < n) = false := by simpa using h3'
      have HE := hideL (HFIN.out (lpM_end (.inl (List.getElem?_eq_none (by rw [HLEN.out]; omega)))))
      clear hrg hbw
      go_wp2_with fail
      go_quiet (fail)
      go_wp2
      go_ret
      exact HE.out _
end Go.Proofs.YtmmnpnhffgpchaaGreatDoor
