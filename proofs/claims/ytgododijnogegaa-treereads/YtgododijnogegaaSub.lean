/-
  subtree: the walker goes through a part.
-/
import Derived.Test.YtgododijnogegaaSbn
import Derived.Deep.QuietTactic
import Derived.Deep.RegionHeld3
namespace Go.Proofs.Ytgododijnogegaa
open Go.RowKit
set_option linter.unusedVariables false
set_option linter.unusedSimpArgs false
set_option maxRecDepth 100000
/-- what is said of unlikeKeys -/
def C42 (p : Nat) (a : Option Addr) (n cap : Nat) (l : List Nx) : Prop := ∀ (w : World) (q dp : Nat) (oa : Option Addr) (on_ ocap : Nat) (ks : List Int), Wk w p a n cap l q dp → Nums w oa ks → ks.length = on_ → (∀ k ∈ ks, 0 ≤ k ∧ k < n) → on_ ≤ 4096 →
  Calls Try.prog 42 #[.pointer (some ⟨p, 0, none⟩), .slice oa on_ ocap] w fun e w' => e = .returned (.bool (decide (keysOf l ks).Nodup)) ∧ Below w.heap.size w w'
/-- what is said of noKeys -/
def C43 (p : Nat) (a : Option Addr) (n cap : Nat) (l : List Nx) : Prop := ∀ (w : World) (q dp : Nat) (oa : Option Addr) (on_ ocap : Nat) (ks : List Int), Wk w p a n cap l q dp → Nums w oa ks → ks.length = on_ → (∀ k ∈ ks, 0 ≤ k ∧ k < n) → on_ ≤ 4096 →
  Calls Try.prog 43 #[.pointer (some ⟨p, 0, none⟩), .slice oa on_ ocap] w fun e w' => e = .returned (.bool (decide (∀ b ∈ keysOf l ks, b = ByteArray.empty))) ∧ Below w.heap.size w w'
/-- what subtree answers -/
def SubE (w : World) (p : Nat) (a : Option Addr) (n cap : Nat) (l : List Nx) (dp d : Nat) (r : Option (Nat × Nat)) (e : Ending) (w' : World) : Prop :=
  But p w w' ∧ match r with
    | some (q', h) => e = .returned (.bool true) ∧ Wk w' p a n cap l q' (max dp (d + h - 1))
    | none => e = .returned (.bool false)
theorem sub_fin {w' : World} {p : Nat} {a : Option Addr} {n cap : Nat} {l : List Nx} {dp d q' h' : Nat} {K : Option (Nat × Nat)} {c b : Bool} {e : Ending} (hc : c = b) (hK : K = some (q', h')) (hW : Wk w' p a n cap l q' (max dp (d + h'))) (he : e = .returned (.bool b)) :
    match (match K with | some (e, h) => if c = true then some (e, h + 1) else none | none => none) with
    | some (q', h) => e = .returned (.bool true) ∧ Wk w' p a n cap l q' (max dp (d + h - 1))
    | none => e = .returned (.bool false) := by
  subst hc hK he
  cases c
  · simp
  · exact ⟨rfl, hW⟩
set_option maxHeartbeats 8000000 in
theorem sub_in (w : World) (p : Nat) (a : Option Addr) (n cap : Nat) (l : List Nx) (q dp d f : Nat) (o : Nx) (h : Wk w p a n cap l q dp) (hf : d + f = 16) (ho : l[q]? = some o)
    (h42 : C42 p a n cap l) (h43 : C43 p a n cap l)
    (IH : ∀ (w : World) (q dp : Nat), Wk w p a n cap l q dp → Calls Try.prog 31 #[.pointer (some ⟨p, 0, none⟩), .int .i64 ((d : Int) + 1)] w (SubE w p a n cap l dp (d + 1) (subT l f q))) :
    Calls Try.prog 31 #[.pointer (some ⟨p, 0, none⟩), .int .i64 d] w (SubE w p a n cap l dp d (subT l (f + 1) q)) := by
  obtain ⟨c0, c1, c2⟩ := h.cells
  have hq := h.q
  have hn := h.small
  have hqn : q < n := by have := (List.getElem?_eq_some_iff.1 ho).1; have := h.len; omega
  have hqn' : (q : Int) < n := by omega
  have q0 : (0 : Int) ≤ q := by omega
  have hd1 : ¬ (16 : Int) < d := by omega
  have hd2 : decide ((16 : Int) < d) = false := by simp; omega
  rcases h.ns.row with hx | ⟨g, off, rfl, hc⟩
  · rw [hx] at ho; simp at ho
  have n0 := hc q _ ho 0 _ rfl
  have n1 := hc q _ ho 1 _ rfl
  have n2 := hc q _ ho 2 _ rfl
  have n3 := hc q _ ho 3 _ rfl
  have n4 := hc q _ ho 4 _ rfl
  have n5 := hc q _ ho 5 _ rfl
  rw [Nat.add_zero] at n0
  have HW := hideL h
  have HO := hideL ho
  have hW : Hid (∀ W : World, Calls Try.prog 27 #[.slice (some ⟨g, off, none⟩) n cap, .int .i64 q] W fun e w' => e = .returned (.bool true) ∧ w' = W) := fun W => (within_any _ _ n cap q).mono fun e w' ⟨he, hw⟩ => ⟨by rw [he]; simp; omega, hw⟩
  have H42 := hideL h42
  have H43 := hideL h43
  have HIH := hideL IH
  clear h42 h43 IH h ho hc
  obtain ⟨kd, key, tx, quo, ln, oa, on_, ocap, ks⟩ := o
  dsimp only at n0 n1 n2 n3 n4 n5
  by_cases hin : isN ⟨kd, key, tx, quo, ln, oa, on_, ocap, ks⟩ = true
  · have HI : Hid (∀ W : World, Calls Try.prog 41 #[.agg #[.int .i64 kd, .string key, .string tx, .bool quo, .int .i64 ln, .slice oa on_ ocap]] W fun e w' => e = .returned (.bool true) ∧ Below W.heap.size W w') := fun W => (isNode_any W ⟨kd, key, tx, quo, ln, oa, on_, ocap, ks⟩).mono fun e w' ⟨he, hw⟩ => ⟨by rw [he, hin], hw⟩
    go_enter Try.func31, Try.ntmps31
    go_wp2_with fail
    go_region_held3 (fun w' => w'.cell? ⟨p, 0, none⟩ = some (.slice (some ⟨g, off, none⟩) n cap) ∧ w'.cell? ⟨p, 1, none⟩ = some (.int .i64 q) ∧ w'.cell? ⟨g, off + q * 6, none⟩ = some (.int .i64 kd) ∧ w'.cell? ⟨g, off + q * 6 + 1, none⟩ = some (.string key) ∧ w'.cell? ⟨g, off + q * 6 + 2, none⟩ = some (.string tx) ∧ w'.cell? ⟨g, off + q * 6 + 3, none⟩ = some (.bool quo) ∧ w'.cell? ⟨g, off + q * 6 + 4, none⟩ = some (.int .i64 ln) ∧ w'.cell? ⟨g, off + q * 6 + 5, none⟩ = some (.slice oa on_ ocap)) (go_keep) (first
      | (go_at_call 27; refine (hW.out _).mono ?_; rintro e w1 ⟨rfl, rfl⟩)
      | (go_at_call 41; refine (HI.out _).mono ?_; rintro e w1 ⟨rfl, hb1⟩; have z0 := cell_of_below hb1 c0; have z1 := cell_of_below hb1 c1; have m0 := cell_of_below hb1 n0; have m1 := cell_of_below hb1 n1; have m2 := cell_of_below hb1 n2; have m3 := cell_of_below hb1 n3; have m4 := cell_of_below hb1 n4; have m5 := cell_of_below hb1 n5))
    have HB1 : Hid (Below w.heap.size w w1) := ⟨hb1.os, hb1.tape, hb1.output, hb1.size, hb1.block⟩
    have HW1 := hideL (HW.out.below HB1.out)
    have fz : ∀ o, w1.frozen? ⟨p, o, none⟩ = false := fun o => by simp [World.frozen?, HW1.out.blk]
    have f1 := fz 1
    have f2 := fz 2
    have zz := HW1.out.cells.2.2
    clear c0 c1 c2 n0 n1 n2 n3 n4 n5 hW HI hb1 fz
    go_wp2_with fail
    go_region_held3 (fun w' => w'.cell? ⟨p, 0, none⟩ = some (.slice (some ⟨g, off, none⟩) n cap) ∧ w'.cell? ⟨p, 1, none⟩ = some (.int .i64 q) ∧ w'.cell? ⟨g, off + q * 6, none⟩ = some (.int .i64 kd) ∧ w'.cell? ⟨g, off + q * 6 + 1, none⟩ = some (.string key) ∧ w'.cell? ⟨g, off + q * 6 + 2, none⟩ = some (.string tx) ∧ w'.cell? ⟨g, off + q * 6 + 3, none⟩ = some (.bool quo) ∧ w'.cell? ⟨g, off + q * 6 + 4, none⟩ = some (.int .i64 ln) ∧ w'.cell? ⟨g, off + q * 6 + 5, none⟩ = some (.slice oa on_ ocap)) (go_keep) (fail)
    obtain ⟨w2, hw2⟩ : ∃ w2, w2 = (w1.alloc (Obj.cells #[.int .i64 kd, .string key, .string tx, .bool quo, .int .i64 ln, .slice oa on_ ocap] 51 (0, 0))).drew := ⟨_, rfl⟩
    have hb2 : Below w1.heap.size w1 w2 := by
      rw [hw2]
      exact ((Below.refl _ _).alloc (Nat.le_refl _) _).trans ⟨rfl, rfl, rfl, Nat.le_refl _, fun _ _ => rfl⟩
    have hB : w2.heap[w1.heap.size]? = some (.cells #[.int .i64 kd, .string key, .string tx, .bool quo, .int .i64 ln, .slice oa on_ ocap] 51 (0, 0)) := by
      rw [hw2]; exact Go.heap_alloc_new w1 _
    rw [← hw2]
    have HW2 := hideL (HW1.out.below hb2)
    obtain ⟨x0, x1, x2⟩ := HW2.out.cells
    have fz : ∀ o, w2.frozen? ⟨p, o, none⟩ = false := fun o => by simp [World.frozen?, HW2.out.blk]
    have g1 := fz 1
    have g2 := fz 2
    have HB2 : Hid (Below w.heap.size w w2) := HB1.out.trans (hb2.mono HB1.out.size)
    have HBp : Hid (p < w1.heap.size) := Nat.lt_of_lt_of_le HW.out.lt HB1.out.size
    obtain ⟨B, hBe⟩ : ∃ B, w1.heap.size = B := ⟨_, rfl⟩
    rw [hBe] at hB HBp ⊢
    have HBB := hideL hB
    obtain ⟨M, hM⟩ : ∃ M : Nat, max dp d = M := ⟨_, rfl⟩
    have HMM := hideL hM
    obtain ⟨hw3, hbt3⟩ := HW2.out.two (q + 1) M (by omega) (by have := HW2.out.dp; omega)
    have y5 : ((w2.setCell ⟨p, 1, none⟩ (.int .i64 ((q + 1 : Nat) : Int))).setCell ⟨p, 2, none⟩ (.int .i64 M)).cell? ⟨B, 5, none⟩ = some (.slice oa on_ ocap) := by
      have : ((w2.setCell ⟨p, 1, none⟩ (.int .i64 ((q + 1 : Nat) : Int))).setCell ⟨p, 2, none⟩ (.int .i64 M)).heap[B]? = _ := ((hbt3.block B (by exact (Array.getElem?_eq_some_iff.1 hB).1) (by have := HBp.out; omega)).trans hB)
      simp only [World.cell?]
      rw [this]
      rfl
    have hB3 := (hbt3.block B (by exact (Array.getElem?_eq_some_iff.1 hB).1) (by have := HBp.out; omega)).trans hB
    have eq1 : (((q + 1 : Nat) : Int)) = (q : Int) + 1 := by omega
    rw [eq1] at hw3 hbt3 y5 hB3
    have HW3 := hideL hw3
    have HT3 := hideL hbt3
    have HB3 := hideL hB3
    clear hw2 hb2 hB fz z0 z1 m0 m1 m2 m3 m4 m5 f1 f2 zz HW1 HB1 hBe hB3 hw3 hbt3 eq1 HBB
    rcases Nat.lt_or_ge dp d with hmx | hmx
    · obtain rfl : d = M := by omega
      clear hM
      go_wp2_with fail
      generalize (World.setCell (World.setCell w2 _ _) _ _) = w3 at HW3 HT3 HB3 y5 ⊢
      have HTw : Hid (But p w w3) := (But.of_below HB2.out).trans HT3.out
      have HNO : Hid (Nin w3 ⟨kd, key, tx, quo, ln, oa, on_, ocap, ks⟩) := HW3.out.ns.each _ (List.mem_of_getElem? HO.out)
      have hbig := HNO.out.big
      dsimp only at hbig
      have HLN : Hid (ks.length = on_) := HNO.out.len
      clear HT3 HW2 HB2 x0 x1 x2 g1 g2 y5 HW hmx
      go_loopw [65] (fun t wr => ∃ (i q' h' : Nat), t = .int .i64 i ∧ i ≤ on_ ∧ i ≤ q' ∧ Hid (Wk wr p (some ⟨g, off, none⟩) n cap l q' (max dp (d + h'))) ∧ Hid (kidsT (subT l f) ks (q + 1) 0 = kidsT (subT l f) (ks.drop i) q' h') ∧ Hid (But p w wr) ∧ Hid (wr.heap[B]? = some (.cells #[.int .i64 kd, .string key, .string tx, .bool quo, .int .i64 ln, .slice oa on_ ocap] 51 (0, 0))) ∧ Hid (∀ (j : Nat) (k : Int), j < i → ks[j]? = some k → 0 ≤ k ∧ k < n)) (fun t _ => on_ - (intOf t).toNat)
      case atStart => exact ⟨0, q + 1, 0, rfl, by omega, by omega, (by have e : max dp (d + 0) = d := HMM.out; rw [e]; exact HW3), rfl, HTw, HB3, fun j k hj _ => by omega⟩
      case round =>
        obtain ⟨i, q', h', rfl, hi, hiq, HWr, HKr, HTr, HBr, HVr⟩ := hrel
        clear HW3 HTw HB3 HNO
        have i0 : (0 : Int) ≤ i := by omega
        obtain ⟨x0, x1, x2⟩ := HWr.out.cells
        by_cases hio : i < on_
        · have hio' : (i : Int) < on_ := by omega
          rcases hki : ks[i]? with _ | k
          · have := List.getElem?_eq_none_iff.1 hki; have := HLN.out; omega
          have no : Nin wr ⟨kd, key, tx, quo, ln, oa, on_, ocap, ks⟩ := HWr.out.ns.each _ (List.mem_of_getElem? HO.out)
          obtain ⟨x, hx, hcx⟩ := no.nums.at_ hki
          dsimp only at hx
          subst hx
          have HKi := hideL hki
          clear no hki
          by_cases hkq : k = q'
          · subst hkq
            have HC := hideL (HIH.out wr q' _ HWr.out)
            go_wp2_with fail
            refine HC.out.mono ?_
            rintro e w4 ⟨hbt, hE⟩
            have HT4 := hideL (HTr.out.trans hbt)
            have HB4 : Hid (w4.heap[B]? = some (.cells #[.int .i64 kd, .string key, .string tx, .bool quo, .int .i64 ln, .slice (some x) on_ ocap] 51 (0, 0))) := (hbt.block B (Array.getElem?_eq_some_iff.1 HBr.out).1 (by have := HBp.out; omega)).trans HBr.out
            clear hbt HC
            rcases hs : subT l f q' with _ | ⟨e', h2⟩
            · rw [hs] at hE
              dsimp only at hE
              subst hE
              have HSs := hideL hs
              clear hs
              go_wp2_with fail
              go_ret
              refine ⟨HT4.out, ?_⟩
              rw [subT_at HO.out hin, HKr.out, kidsT_cons HKi.out, if_pos rfl, HSs.out]
              rfl
            · rw [hs] at hE
              dsimp only at hE
              obtain ⟨rfl, hw4⟩ := hE
              have HW4 := hideL hw4
              have HSs := hideL hs
              clear hs hw4
              go_wp2_with fail
              go_roundw
              case rel =>
                obtain ⟨s1, s2, s3⟩ := subT_in _ _ _ _ HSs.out
                have hlen := HW4.out.len
                refine ⟨i + 1, e', max h' h2, by go_num, by omega, by omega, ?_, ?_, HT4, HB4, fun j k hj hk => ?_⟩
                · have e : max dp (d + max h' h2) = max (max dp (d + h')) (d + 1 + h2 - 1) := by omega
                  rw [e]; exact HW4
                · exact HKr.out.trans (by rw [kidsT_cons HKi.out, if_pos rfl, HSs.out])
                · by_cases hji : j < i
                  · exact HVr.out j k hji hk
                  · obtain rfl : j = i := by omega
                    rw [HKi.out] at hk; cases hk
                    omega
              case measure => simp [intOf]; omega
          · go_wp2_with fail
            go_ret
            refine ⟨HTr.out, ?_⟩
            rw [subT_at HO.out hin, HKr.out, kidsT_cons HKi.out, if_neg hkq]
            rfl
        · have hio' : ¬ (i : Int) < on_ := by omega
          have b0 : wr.cell? ⟨B, 0, none⟩ = some (.int .i64 kd) := by
            simp only [World.cell?]; rw [HBr.out]; rfl
          have b5 : wr.cell? ⟨B, 5, none⟩ = some (.slice oa on_ ocap) := by
            simp only [World.cell?]; rw [HBr.out]; rfl
          have no : Nin wr ⟨kd, key, tx, quo, ln, oa, on_, ocap, ks⟩ := HWr.out.ns.each _ (List.mem_of_getElem? HO.out)
          have hv : ∀ k ∈ ks, 0 ≤ k ∧ k < (n : Int) := fun k hk => by
            obtain ⟨j, hj⟩ := List.mem_iff_getElem?.1 hk
            exact HVr.out j k (by have := (List.getElem?_eq_some_iff.1 hj).1; have := HLN.out; omega) hj
          have hql := HWr.out.q
          have C2 := hideL (H42.out wr q' _ oa on_ ocap ks HWr.out no.nums HLN.out hv (by omega))
          have C3 := hideL (H43.out wr q' _ oa on_ ocap ks HWr.out no.nums HLN.out hv (by omega))
          have HKe : Hid (kidsT (subT l f) ks (q + 1) 0 = some (q', h')) := HKr.out.trans (kidsT_end (by have := HLN.out; omega))
          clear no hv HKr
          by_cases hk2 : kd = 2
          · have HK2 := hideL hk2
            go_wp2_with fail
            refine C2.out.mono ?_
            rintro e w5 ⟨rfl, hb5⟩
            have HB5 := hideL hb5
            clear hb5
            go_wp2_with fail
            go_ret
            refine ⟨HTr.out.trans (But.of_below HB5.out), ?_⟩
            rw [subT_at HO.out hin]
            exact sub_fin (by simp [keysOk, HK2.out]) HKe.out (HWr.out.below HB5.out) rfl
          · have HK2 := hideL hk2
            go_wp2_with fail
            refine C3.out.mono ?_
            rintro e w5 ⟨rfl, hb5⟩
            have HB5 := hideL hb5
            clear hb5
            go_wp2_with fail
            go_ret
            refine ⟨HTr.out.trans (But.of_below HB5.out), ?_⟩
            rw [subT_at HO.out hin]
            exact sub_fin (by simp [keysOk, HK2.out]) HKe.out (HWr.out.below HB5.out) rfl
    · obtain rfl : dp = M := by omega
      clear hM
      go_wp2_with fail
      generalize (World.setCell (World.setCell w2 _ _) _ _) = w3 at HW3 HT3 HB3 y5 ⊢
      have HTw : Hid (But p w w3) := (But.of_below HB2.out).trans HT3.out
      have HNO : Hid (Nin w3 ⟨kd, key, tx, quo, ln, oa, on_, ocap, ks⟩) := HW3.out.ns.each _ (List.mem_of_getElem? HO.out)
      have hbig := HNO.out.big
      dsimp only at hbig
      have HLN : Hid (ks.length = on_) := HNO.out.len
      clear HT3 HW2 HB2 x0 x1 x2 g1 g2 y5 HW hmx
      go_loopw [65] (fun t wr => ∃ (i q' h' : Nat), t = .int .i64 i ∧ i ≤ on_ ∧ i ≤ q' ∧ Hid (Wk wr p (some ⟨g, off, none⟩) n cap l q' (max dp (d + h'))) ∧ Hid (kidsT (subT l f) ks (q + 1) 0 = kidsT (subT l f) (ks.drop i) q' h') ∧ Hid (But p w wr) ∧ Hid (wr.heap[B]? = some (.cells #[.int .i64 kd, .string key, .string tx, .bool quo, .int .i64 ln, .slice oa on_ ocap] 51 (0, 0))) ∧ Hid (∀ (j : Nat) (k : Int), j < i → ks[j]? = some k → 0 ≤ k ∧ k < n)) (fun t _ => on_ - (intOf t).toNat)
      case atStart => exact ⟨0, q + 1, 0, rfl, by omega, by omega, (by have e : max dp (d + 0) = dp := HMM.out; rw [e]; exact HW3), rfl, HTw, HB3, fun j k hj _ => by omega⟩
      case round =>
        obtain ⟨i, q', h', rfl, hi, hiq, HWr, HKr, HTr, HBr, HVr⟩ := hrel
        clear HW3 HTw HB3 HNO
        have i0 : (0 : Int) ≤ i := by omega
        obtain ⟨x0, x1, x2⟩ := HWr.out.cells
        by_cases hio : i < on_
        · have hio' : (i : Int) < on_ := by omega
          rcases hki : ks[i]? with _ | k
          · have := List.getElem?_eq_none_iff.1 hki; have := HLN.out; omega
          have no : Nin wr ⟨kd, key, tx, quo, ln, oa, on_, ocap, ks⟩ := HWr.out.ns.each _ (List.mem_of_getElem? HO.out)
          obtain ⟨x, hx, hcx⟩ := no.nums.at_ hki
          dsimp only at hx
          subst hx
          have HKi := hideL hki
          clear no hki
          by_cases hkq : k = q'
          · subst hkq
            have HC := hideL (HIH.out wr q' _ HWr.out)
            go_wp2_with fail
            refine HC.out.mono ?_
            rintro e w4 ⟨hbt, hE⟩
            have HT4 := hideL (HTr.out.trans hbt)
            have HB4 : Hid (w4.heap[B]? = some (.cells #[.int .i64 kd, .string key, .string tx, .bool quo, .int .i64 ln, .slice (some x) on_ ocap] 51 (0, 0))) := (hbt.block B (Array.getElem?_eq_some_iff.1 HBr.out).1 (by have := HBp.out; omega)).trans HBr.out
            clear hbt HC
            rcases hs : subT l f q' with _ | ⟨e', h2⟩
            · rw [hs] at hE
              dsimp only at hE
              subst hE
              have HSs := hideL hs
              clear hs
              go_wp2_with fail
              go_ret
              refine ⟨HT4.out, ?_⟩
              rw [subT_at HO.out hin, HKr.out, kidsT_cons HKi.out, if_pos rfl, HSs.out]
              rfl
            · rw [hs] at hE
              dsimp only at hE
              obtain ⟨rfl, hw4⟩ := hE
              have HW4 := hideL hw4
              have HSs := hideL hs
              clear hs hw4
              go_wp2_with fail
              go_roundw
              case rel =>
                obtain ⟨s1, s2, s3⟩ := subT_in _ _ _ _ HSs.out
                have hlen := HW4.out.len
                refine ⟨i + 1, e', max h' h2, by go_num, by omega, by omega, ?_, ?_, HT4, HB4, fun j k hj hk => ?_⟩
                · have e : max dp (d + max h' h2) = max (max dp (d + h')) (d + 1 + h2 - 1) := by omega
                  rw [e]; exact HW4
                · exact HKr.out.trans (by rw [kidsT_cons HKi.out, if_pos rfl, HSs.out])
                · by_cases hji : j < i
                  · exact HVr.out j k hji hk
                  · obtain rfl : j = i := by omega
                    rw [HKi.out] at hk; cases hk
                    omega
              case measure => simp [intOf]; omega
          · go_wp2_with fail
            go_ret
            refine ⟨HTr.out, ?_⟩
            rw [subT_at HO.out hin, HKr.out, kidsT_cons HKi.out, if_neg hkq]
            rfl
        · have hio' : ¬ (i : Int) < on_ := by omega
          have b0 : wr.cell? ⟨B, 0, none⟩ = some (.int .i64 kd) := by
            simp only [World.cell?]; rw [HBr.out]; rfl
          have b5 : wr.cell? ⟨B, 5, none⟩ = some (.slice oa on_ ocap) := by
            simp only [World.cell?]; rw [HBr.out]; rfl
          have no : Nin wr ⟨kd, key, tx, quo, ln, oa, on_, ocap, ks⟩ := HWr.out.ns.each _ (List.mem_of_getElem? HO.out)
          have hv : ∀ k ∈ ks, 0 ≤ k ∧ k < (n : Int) := fun k hk => by
            obtain ⟨j, hj⟩ := List.mem_iff_getElem?.1 hk
            exact HVr.out j k (by have := (List.getElem?_eq_some_iff.1 hj).1; have := HLN.out; omega) hj
          have hql := HWr.out.q
          have C2 := hideL (H42.out wr q' _ oa on_ ocap ks HWr.out no.nums HLN.out hv (by omega))
          have C3 := hideL (H43.out wr q' _ oa on_ ocap ks HWr.out no.nums HLN.out hv (by omega))
          have HKe : Hid (kidsT (subT l f) ks (q + 1) 0 = some (q', h')) := HKr.out.trans (kidsT_end (by have := HLN.out; omega))
          clear no hv HKr
          by_cases hk2 : kd = 2
          · have HK2 := hideL hk2
            go_wp2_with fail
            refine C2.out.mono ?_
            rintro e w5 ⟨rfl, hb5⟩
            have HB5 := hideL hb5
            clear hb5
            go_wp2_with fail
            go_ret
            refine ⟨HTr.out.trans (But.of_below HB5.out), ?_⟩
            rw [subT_at HO.out hin]
            exact sub_fin (by simp [keysOk, HK2.out]) HKe.out (HWr.out.below HB5.out) rfl
          · have HK2 := hideL hk2
            go_wp2_with fail
            refine C3.out.mono ?_
            rintro e w5 ⟨rfl, hb5⟩
            have HB5 := hideL hb5
            clear hb5
            go_wp2_with fail
            go_ret
            refine ⟨HTr.out.trans (But.of_below HB5.out), ?_⟩
            rw [subT_at HO.out hin]
            exact sub_fin (by simp [keysOk, HK2.out]) HKe.out (HWr.out.below HB5.out) rfl
  · have hin' : isN ⟨kd, key, tx, quo, ln, oa, on_, ocap, ks⟩ = false := by simpa using hin
    have HI : Hid (∀ W : World, Calls Try.prog 41 #[.agg #[.int .i64 kd, .string key, .string tx, .bool quo, .int .i64 ln, .slice oa on_ ocap]] W fun e w' => e = .returned (.bool false) ∧ Below W.heap.size W w') := fun W => (isNode_any W ⟨kd, key, tx, quo, ln, oa, on_, ocap, ks⟩).mono fun e w' ⟨he, hw⟩ => ⟨by rw [he, hin'], hw⟩
    have HNI := hideL hin'
    clear hin hin'
    go_enter Try.func31, Try.ntmps31
    go_wp2_with fail
    go_region_held3 (fun w' => w'.cell? ⟨p, 0, none⟩ = some (.slice (some ⟨g, off, none⟩) n cap) ∧ w'.cell? ⟨p, 1, none⟩ = some (.int .i64 q) ∧ w'.cell? ⟨g, off + q * 6, none⟩ = some (.int .i64 kd) ∧ w'.cell? ⟨g, off + q * 6 + 1, none⟩ = some (.string key) ∧ w'.cell? ⟨g, off + q * 6 + 2, none⟩ = some (.string tx) ∧ w'.cell? ⟨g, off + q * 6 + 3, none⟩ = some (.bool quo) ∧ w'.cell? ⟨g, off + q * 6 + 4, none⟩ = some (.int .i64 ln) ∧ w'.cell? ⟨g, off + q * 6 + 5, none⟩ = some (.slice oa on_ ocap)) (go_keep) (first
      | (go_at_call 27; refine (hW.out _).mono ?_; rintro e w1 ⟨rfl, rfl⟩)
      | (go_at_call 41; refine (HI.out _).mono ?_; rintro e w1 ⟨rfl, hb1⟩; have z0 := cell_of_below hb1 c0; have z1 := cell_of_below hb1 c1; have m0 := cell_of_below hb1 n0; have m1 := cell_of_below hb1 n1; have m2 := cell_of_below hb1 n2; have m3 := cell_of_below hb1 n3; have m4 := cell_of_below hb1 n4; have m5 := cell_of_below hb1 n5))
    have HB1 : Hid (Below w.heap.size w w1) := ⟨hb1.os, hb1.tape, hb1.output, hb1.size, hb1.block⟩
    clear c0 c1 c2 n0 n1 n2 n3 n4 n5 hW HI hb1
    go_wp2_with fail
    go_ret
    refine ⟨But.of_below HB1.out, ?_⟩
    rw [subT_no HO.out HNI.out]
    rfl
end Go.Proofs.Ytgododijnogegaa
