/-
  The first of several patterns that takes a host: the program's.
-/
import Derived.Test.YtplbdnndpgfljaaPl
namespace Go.Proofs.Ytplbdnndpgfljaa
open Go.RowKit
set_option linter.unusedVariables false
set_option linter.unusedSimpArgs false
set_option maxRecDepth 100000
def bstS (h : List UInt8) (ds : List (List UInt8)) : Nat → Int × (Int × List UInt8)
  | 0 => (0, (3, []))
  | k + 1 => if takF (srtF (ds.getD k [])) h && decide (cmpF (srtF (ds.getD k [])) (bstS h ds k).2 < 0) then ((k : Int), srtF (ds.getD k [])) else bstS h ds k
def Strs (w : World) (a : Option Addr) (ds : List (List UInt8)) : Prop := (a = none ∧ ds = []) ∨ ∃ x, a = some x ∧ ∀ (j : Nat) d, ds[j]? = some d → w.cell? (x.add j) = some (.string ⟨d.toArray⟩)
theorem Strs.at_ {w : World} {a : Option Addr} {ds : List (List UInt8)} (h : Strs w a ds) {i : Nat} {d : List UInt8} (hi : ds[i]? = some d) : ∃ x, a = some x ∧ w.cell? (x.add i) = some (.string ⟨d.toArray⟩) := by
  rcases h with ⟨_, rfl⟩ | ⟨x, hx, hc⟩
  · simp at hi
  · exact ⟨x, hx, hc i d hi⟩
theorem Strs.below {w w' : World} {a : Option Addr} {ds : List (List UInt8)} (h : Strs w a ds) (hb : Below w.heap.size w w') : Strs w' a ds := by
  rcases h with h | ⟨x, hx, hc⟩
  · exact .inl h
  · exact .inr ⟨x, hx, fun j d hd => cell_of_below hb (hc j d hd)⟩
theorem bstS_len (h : List UInt8) (ds : List (List UInt8)) (hs : ∀ d ∈ ds, d.length ≤ 2 ^ 61) : ∀ k, (bstS h ds k).2.2.length ≤ 2 ^ 61
  | 0 => by simp [bstS]
  | k + 1 => by
    rw [bstS]
    split
    · refine Nat.le_trans (srt_len _) ?_
      rcases hk : ds[k]? with _ | d
      · simp [List.getD, hk]
      · simp only [List.getD, hk, Option.getD_some]; exact hs d (List.mem_of_getElem? hk)
    · exact bstS_len h ds hs k
/-- the block of the best one so far -/
def Fst (w : World) (B : Nat) (n : Int) (t : List UInt8) : Prop := w.heap[B]? = some (.cells #[.int .i64 n, .string ⟨t.toArray⟩] 37 (0, 0))
theorem Fst.below {w w' : World} {B : Nat} {n : Int} {t : List UInt8} (h : Fst w B n t) (hb : Below w.heap.size w w') : Fst w' B n t := hb.cells h
theorem Fst.facts {w : World} {B : Nat} {n : Int} {t : List UInt8} (h : Fst w B n t) : w.cell? ⟨B, 0, none⟩ = some (.int .i64 n) ∧ w.cell? ⟨B, 1, none⟩ = some (.string ⟨t.toArray⟩) ∧ w.frozen? ⟨B, 0, none⟩ = false ∧ w.frozen? ⟨B, 1, none⟩ = false := by
  unfold Fst at h
  refine ⟨?_, ?_, ?_, ?_⟩ <;> simp [World.cell?, World.frozen?, h]
theorem Fst.set {w : World} {B : Nat} {n : Int} {t : List UInt8} (h : Fst w B n t) (n' : Int) (t' : List UInt8) : Fst ((w.setCell ⟨B, 0, none⟩ (.int .i64 n')).setCell ⟨B, 1, none⟩ (.string ⟨t'.toArray⟩)).drew B n' t' := by
  show ((w.setCell ⟨B, 0, none⟩ (.int .i64 n')).setCell ⟨B, 1, none⟩ (.string ⟨t'.toArray⟩)).heap[B]? = _
  rw [block_setCell (block_setCell h 0 _)]
  rfl
theorem best_no (w : World) (a : Option Addr) (n cap : Nat) (s : List UInt8) (h2 : s.length ≤ 2 ^ 62) (hh : hostB s = false) : Calls Try.prog 31 #[.slice a n cap, .string ⟨s.toArray⟩] w fun e w' => e = .returned (.tuple #[.int .i64 0, .bool false]) ∧ Below w.heap.size w w' := by
  have hF := fold_no s w h2 hh
  go_enter Try.func31, Try.ntmps31
  go_wp2_with fail
  refine hF.mono ?_
  rintro e w1 ⟨rfl, rfl⟩
  go_wp2
  go_ret2
  exact ⟨rfl, Below.refl _ _⟩
set_option maxHeartbeats 8000000 in
theorem best_ok (w : World) (a : Option Addr) (n cap : Nat) (ds : List (List UInt8)) (s : List UInt8) (hn : ds.length = n) (hl : n ≤ 140737488351232) (hS : Strs w a ds) (hs : ∀ d ∈ ds, d.length ≤ 2 ^ 61) (h2 : s.length ≤ 2 ^ 61) (hh : hostB s = true) :
    Calls Try.prog 31 #[.slice a n cap, .string ⟨s.toArray⟩] w fun e w' => e = .returned (.tuple #[.int .i64 (bstS (fldF s) ds n).1, .bool !((bstS (fldF s) ds n).2.1 == 3)]) ∧ Below w.heap.size w w' := by
  have hF := fold_ok s w (by omega) hh
  have hfl : (fldF s).length ≤ 2 ^ 62 := by rw [fldF_len]; omega
  generalize fldF s = f at *
  have HS := hide2 hS
  have HN := hide2 hn
  have HL := hide2 hs
  have HFL := hide2 hfl
  clear hS hn hs hfl
  go_enter Try.func31, Try.ntmps31
  go_wp2_with fail
  refine hF.mono ?_
  rintro e w1 ⟨rfl, hb⟩
  have HB := hide2 hb
  clear hb hF
  go_wp2
  have HZ : Hid (Fst (w1.alloc (.cells #[.int .i64 3, .string ⟨#[]⟩] 37 (0, 0))) w1.heap.size 3 []) := heap_alloc_new w1 _
  have HB2 : Hid (Below w.heap.size w (w1.alloc (.cells #[.int .i64 3, .string ⟨#[]⟩] 37 (0, 0)))) := HB.out.alloc HB.out.size _
  have HSZ : Hid (w.heap.size ≤ w1.heap.size) := HB.out.size
  generalize (w1.alloc (.cells #[.int .i64 3, .string ⟨#[]⟩] 37 (0, 0))) = wz at HZ HB2 ⊢
  generalize w1.heap.size = B at HZ HSZ ⊢
  clear HB
  go_loopw [8, 22] (fun b c wr => ∃ k : Nat, k ≤ n ∧ c = .int .i64 k ∧ b = .int .i64 (bstS f ds k).1 ∧ Hid (Fst wr B (bstS f ds k).2.1 (bstS f ds k).2.2) ∧ Hid (Below w.heap.size w wr)) (fun _ c _ => n - (intOf c).toNat)
  case atStart => exact ⟨0, by omega, rfl, rfl, HZ, HB2⟩
  case round =>
    clear HZ HB2
    obtain ⟨k, hk, rfl, rfl, HZ, HB⟩ := hrel
    have HFT := hide2 (bstS_len f ds HL.out k)
    have HST : Hid (∀ c : Bool, (takF (srtF (ds.getD k [])) f && decide (cmpF (srtF (ds.getD k [])) (bstS f ds k).2 < 0)) = c → bstS f ds (k + 1) = if c then ((k : Int), srtF (ds.getD k [])) else bstS f ds k) := hide2 (fun c hc => by rw [bstS, hc])
    have k0 : (0 : Int) ≤ k := by omega
    by_cases hlt : k < n
    · have hlt' : (k : Int) < n := by omega
      rcases hki : ds[k]? with _ | d
      · have := List.getElem?_eq_none_iff.1 hki; have := HN.out; omega
      obtain ⟨x, hx, hcx0⟩ := HS.out.at_ hki
      subst hx
      have hcx := cell_of_below HB.out hcx0
      have hgd : ds.getD k [] = d := by simp [List.getD, hki]
      rw [hgd] at HST
      have hdl : d.length ≤ 2 ^ 61 := HL.out d (List.mem_of_getElem? hki)
      have hP := fun w => patternOf_any d w (by omega)
      have hplow := srt_low d
      have hpl : (srtF d).2.length ≤ 2 ^ 61 := Nat.le_trans (srt_len d) hdl
      generalize bstS f ds k = st at *
      obtain ⟨b, nf, tf⟩ := st
      generalize srtF d = p at *
      obtain ⟨pn, pt⟩ := p
      simp only at HFT hpl hplow
      have hT := fun w => takes_any pn pt f w hplow HFL.out (by omega)
      have hC := fun w => compare_any pn nf pt tf w (by omega) (by have := HFT.out; omega)
      unfold patV at hP hT hC
      generalize takF (pn, pt) f = ct at hT HST
      generalize cmpF (pn, pt) (nf, tf) = cc at hC HST
      clear hki hcx0 hgd hdl hplow hpl
      go_wp2_with fail
      refine (hP _).mono ?_
      rintro e w2 ⟨rfl, hb⟩
      have HZ2 := hide2 (HZ.out.below hb)
      have HB3 := hide2 (below_two HB.out hb)
      clear hb
      go_wp2_with fail
      have HP : Hid (Fst (w2.alloc (.cells #[.int .i64 pn, .string ⟨pt.toArray⟩] 37 (0, 0))) w2.heap.size pn pt) := heap_alloc_new w2 _
      have HZ3 : Hid (Fst (w2.alloc (.cells #[.int .i64 pn, .string ⟨pt.toArray⟩] 37 (0, 0))) B nf tf) := HZ2.out.below ((Below.refl _ w2).alloc (Nat.le_refl _) _)
      have HB4 : Hid (Below w.heap.size w (w2.alloc (.cells #[.int .i64 pn, .string ⟨pt.toArray⟩] 37 (0, 0)))) := HB3.out.alloc HB3.out.size _
      refine (hT _).mono ?_
      rintro e w3 ⟨rfl, hb⟩
      have HP2 := hide2 (HP.out.below hb)
      have HZ4 := hide2 (HZ3.out.below hb)
      have HB5 := hide2 (below_two HB4.out hb)
      obtain ⟨p0, p1, -, -⟩ := HP2.out.facts
      obtain ⟨z0, z1, z2, z3⟩ := HZ4.out.facts
      clear hb HP HZ3 HB4 HZ2 HB3
      generalize w2.heap.size = D at HP2 p0 p1 ⊢
      cases ct with
      | false =>
        have HQ := hide2 (HST.out false (by simp))
        clear HST
        go_wp2
        go_roundw
        case rel => exact ⟨k + 1, by omega, by go_num, by rw [HQ.out]; rfl, by rw [HQ.out]; exact HZ4, HB5⟩
        case measure => simp [intOf]; omega
      | true =>
        go_wp2_with fail
        refine (hC _).mono ?_
        rintro e w4 ⟨rfl, hb⟩
        have HP3 := hide2 (HP2.out.below hb)
        have HZ5 := hide2 (HZ4.out.below hb)
        have HB6 := hide2 (below_two HB5.out hb)
        clear hb p0 p1 z0 z1 z2 z3 HP2 HZ4 HB5
        obtain ⟨p0, p1, -, -⟩ := HP3.out.facts
        obtain ⟨z0, z1, z2, z3⟩ := HZ5.out.facts
        by_cases hcc : cc < 0
        · have HQ := hide2 (HST.out true (by simp [hcc]))
          clear HST
          go_wp2_with fail
          go_region
          go_wp2
          go_roundw
          case rel => exact ⟨k + 1, by omega, by go_num, by rw [HQ.out]; rfl, by rw [HQ.out]; exact HZ5.out.set _ _, below_drewN (below_set (below_set HB6.out (Nat.le_refl _) HSZ.out _ _) (Nat.le_refl _) HSZ.out _ _) 1⟩
          case measure => simp [intOf]; omega
        · have HQ := hide2 (HST.out false (by simp [hcc]))
          clear HST
          go_wp2
          go_roundw
          case rel => exact ⟨k + 1, by omega, by go_num, by rw [HQ.out]; rfl, by rw [HQ.out]; exact HZ5, HB6⟩
          case measure => simp [intOf]; omega
    · have hlt' : ¬ (k : Int) < n := by omega
      have hkn : k = n := by omega
      subst hkn
      obtain ⟨z0, z1, -, -⟩ := HZ.out.facts
      clear HST HFT
      rcases hst : bstS f ds k with ⟨b, nf, tf⟩
      rw [hst] at z0 z1
      have HQ := hide2 hst
      clear hst
      go_wp2_with fail
      go_quiet (fail)
      go_wp2
      go_ret2
      exact ⟨by rw [HQ.out]; rfl, below_drewN HB.out nq⟩
end Go.Proofs.Ytplbdnndpgfljaa
