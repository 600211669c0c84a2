/-
  NetEnds.
-/
import Derived.Test.YtcbnmoppnoiggaaApt
import Derived.Deep.RegionHeld3
namespace Go.Proofs.Ytcbnmoppnoiggaa
open Go.RowKit
set_option linter.unusedVariables false
set_option linter.unusedSimpArgs false
theorem ends_round {W w9 w10 : World} {B b : Nat} {row v v' : Value} {got us zs : List Int} {t t' : Bool} {m : Nat} {c9 : Cn} (hz : got ++ us = zs) (hm : m ≤ us.length) (ht : t = true → us = []) (ht' : (if m = us.length then true else t) = t')
    (N9 : Net w9 B b row (.map none) [c9]) (M9 : c9.m = SE (us.drop m) t' []) (A9 : Apt w9 B b row [c9] v got) (L9 : Below B W w9) (hB9 : B ≤ w9.heap.size)
    (hB : Buf w10 B v' (got ++ us.take m)) (hg : w9.grownBy w10 v.ownBlock) (hat : v'.ownBlock = v.ownBlock ∨ ∀ g, v'.ownBlock = some g → w9.heap.size ≤ g) :
    Hid (Net w10 B b row (.map none) [c9] ∧ c9.m = SE (us.drop m) t' [] ∧ (got ++ us.take m) ++ us.drop m = zs ∧ (t' = true → us.drop m = []) ∧ Apt w10 B b row [c9] v' (got ++ us.take m) ∧ Below B W w10) ∧ (t' = true → (got ++ us.take m).length = zs.length) ∧ (t' = false → (got ++ us.take m).length ≠ zs.length) := by
  have hl : (got ++ us.take m).length + (us.drop m).length = zs.length := by rw [← hz]; simp; omega
  have h1 : t' = true → us.drop m = [] := fun h => by
    by_cases hc : m = us.length
    · rw [hc]; simp
    · rw [if_neg hc] at ht'; rw [ht (ht' ▸ h)]; simp
  refine ⟨⟨N9.grown hg (fun g h => A9.out g h), M9, by rw [List.append_assoc, List.take_append_drop, hz], h1, A9.more N9 hB hat, L9.grown hg hB9 (fun k hk => (A9.buf.low hk).1)⟩, ?_, ?_⟩
  · intro h
    rw [h1 h] at hl
    simpa using hl
  · intro h
    have : us.drop m ≠ [] := fun h' => by
      by_cases hc : m = us.length
      · rw [if_pos hc] at ht'; rw [h] at ht'; cases ht'
      · have := congrArg List.length h'
        simp at this
        omega
    have : 0 < (us.drop m).length := List.length_pos_iff.2 this
    omega
theorem oct_one : Octets [1] := fun i => by
  match i with
  | 0 => decide
  | i + 1 => simp
set_option maxRecDepth 100000 in
set_option maxHeartbeats 2000000 in
theorem ends_at (W : World) (B : Nat) (hB : W.heap.size = B) (a : Option Addr) (n cap : Nat) (zs : List Int) (hs : Bs W a n cap zs) (a2 : Option Addr) (n2 cap2 : Nat) (ks : List Int) (hk2 : n2 = 0 ∨ ∃ b2 o2, a2 = some ⟨b2, o2, none⟩ ∧ ∀ j, j < n2 → W.cell? ⟨b2, o2 + j, none⟩ = some (.int .i64 (ks.getD j 0))) (hn2 : n2 ≤ 140737488355328) :
    Calls Try.prog 5 #[.slice a n cap, .slice a2 n2 cap2] W fun e w' => e = .returned (.bool true) ∧ Below B W w' := by
  obtain ⟨i0, i0i, hz0, hz1, hz2⟩ := info_parts Try.info5
  have HS : Hid (Bs W a n cap zs) := hs
  have hsl := hs.len
  have hsm := hs.small
  have HK : Hid (n2 = 0 ∨ ∃ b2 o2, a2 = some ⟨b2, o2, none⟩ ∧ ∀ j, j < n2 → W.cell? ⟨b2, o2 + j, none⟩ = some (.int .i64 (ks.getD j 0))) := hk2
  have HSL : Hid (zs.length = n) := hsl
  have HB : Hid (W.heap.size = B) := hB
  clear hs hk2 hsl hB
  go_enter Try.func5, Try.ntmps5
  go_wp2_with fail
  refine (awake_any W).mono ?_
  rintro e w0 ⟨rfl, L0'⟩
  rw [HB.out] at L0'
  have L0 : Hid (Below B W w0) := L0'
  have S0 : Hid (B ≤ w0.heap.size) := by have := L0'.size; have := HB.out; show B ≤ w0.heap.size; omega
  clear L0'
  go_wp2_with fail
  have HN := net_new w0 B S0.out
  refine (new_any w0).mono ?_
  rintro e w1 ⟨rfl, hw1⟩
  rw [← hw1] at HN
  have L1 : Hid (Below B W w1) := by rw [hw1]; exact L0.out.alloc S0.out _
  obtain ⟨b, hb⟩ : ∃ b, w0.heap.size = b := ⟨_, rfl⟩
  rw [hb] at HN ⊢
  have N1 : Hid (Net w1 B b (.slice none 0 0) (.map none) []) := HN
  clear HN hw1 hb
  go_wp2_with fail
  refine (dial_ok B b _ none [] ⟨#[97]⟩ w1 N1.out (by decide) (look_none _ (by decide) w1)).mono ?_
  rintro e w2 ⟨rfl, k0, row, D2⟩
  have N2 : Hid (Net w2 B b row (.map none) [Cn.fresh k0 ⟨#[97]⟩]) := D2.net
  have L2 : Hid (Below B W w2) := L1.out.trans (D2.below N1.out)
  clear D2
  go_wp2_with fail
  refine (nwrite N2.out 0 _ rfl false a n cap zs HS.out.len HS.out.bare (HS.out.has.of_below (by rw [HB.out]; exact L2.out)) HS.out.oct (Nat.zero_le _)).mono ?_
  rintro e w3 ⟨rfl, c3, hm3, D3⟩
  have N3 : Hid (Net w3 B b row (.map none) [c3]) := D3.net
  have L3 : Hid (Below B W w3) := L2.out.trans (D3.below N2.out)
  clear D3
  by_cases hlong : 1048576 < n
  · have e3 : mWrite (Cn.fresh k0 ⟨#[97]⟩).m false zs = (3, (Cn.fresh k0 ⟨#[97]⟩).m) := by
      have h1 : 1048576 < ([] : List Int).length + zs.length := by have := HSL.out; simp; omega
      unfold mWrite
      exact (if_neg (by simp [Cn.m, Cn.fresh])).trans ((if_neg (by simp [Cn.m, Cn.fresh, Md.sd, Sd.m])).trans (if_pos h1))
    rw [e3]
    clear e3 hm3
    go_wp2_with fail
    go_ret
    refine ⟨?_, L3.out⟩
    show Ending.returned (.bool (decide ((1048576 : Int) < n))) = _
    rw [decide_eq_true (by omega)]
  · have e3 : mWrite (Cn.fresh k0 ⟨#[97]⟩).m false zs = (0, ⟨⟨#[97]⟩, true, false, ⟨zs, [], false, false⟩, ⟨[], [], false, false⟩⟩) := by
      have h1 : ¬ 1048576 < ([] : List Int).length + zs.length := by have := HSL.out; simp; omega
      unfold mWrite
      exact (if_neg (by simp [Cn.m, Cn.fresh])).trans ((if_neg (by simp [Cn.m, Cn.fresh, Md.sd, Sd.m])).trans (if_neg h1))
    rw [e3] at hm3 ⊢
    have M3 : Hid (c3.m = ⟨⟨#[97]⟩, true, false, ⟨zs, [], false, false⟩, ⟨[], [], false, false⟩⟩) := hm3
    have u3 : Hid ((c3.sd false).us.length ≤ 1048576) := by
      show (c3.sd false).us.length ≤ 1048576
      rw [← m_us, M3.out]; have := HSL.out; show zs.length ≤ _; omega
    clear e3 hm3
    go_wp2_with fail
    refine (nclose N3.out 0 _ rfl false u3.out).mono ?_
    rintro e w4 ⟨rfl, c4, hm4, D4⟩
    have e4 : mClose c3.m false = (0, SE zs false []) := by rw [M3.out]; rfl
    rw [e4] at hm4 ⊢
    have N4 : Hid (Net w4 B b row (.map none) [c4]) := D4.net
    have L4 : Hid (Below B W w4) := L3.out.trans (D4.below N3.out)
    have M4 : Hid (c4.m = SE zs false []) := hm4
    have u4 : Hid ((c4.sd false).us.length ≤ 1048576) := by
      show (c4.sd false).us.length ≤ 1048576
      rw [← m_us, M4.out]; have := HSL.out; show zs.length ≤ _; omega
    clear e4 hm4 D4
    go_wp2_with fail
    refine (nclose N4.out 0 _ rfl false u4.out).mono ?_
    rintro e w5 ⟨rfl, c5, hm5, D5⟩
    have e5 : mClose c4.m false = (42, SE zs false []) := by rw [M4.out]; rfl
    rw [e5] at hm5 ⊢
    have N5 : Hid (Net w5 B b row (.map none) [c5]) := D5.net
    have L5 : Hid (Below B W w5) := L4.out.trans (D5.below N4.out)
    have M5 : Hid (c5.m = SE zs false []) := hm5
    clear e5 hm5 D5
    go_wp2_with fail
    have HH : Has (w5.alloc (.cells #[.int .u8 1] 5)) (some ⟨w5.heap.size, 0, none⟩) [1] := Has.of_block (zs := [1]) (Go.heap_alloc_new w5 _)
    have N5' := N5.out.alloc (.cells #[.int .u8 1] 5)
    have L5' := L5.out.alloc (by have := L5.out.size; have := HB.out; omega) (.cells #[.int .u8 1] 5)
    obtain ⟨w6, hw6⟩ : ∃ W, w5.alloc (.cells #[.int .u8 1] 5) = W := ⟨_, rfl⟩
    rw [hw6] at HH N5' L5' ⊢
    have N6 : Hid (Net w6 B b row (.map none) [c5]) := N5'
    have L6 : Hid (Below B W w6) := L5'
    refine (nwrite N5' 0 _ rfl false _ 1 1 [1] rfl (fun h => by cases h) HH oct_one (by rw [← m_us, M5.out]; have := HSL.out; show zs.length ≤ _; omega)).mono ?_
    clear HH N5' L5' hw6
    rintro e w7 ⟨rfl, c7, hm7, D7⟩
    have e7 : mWrite c5.m false [1] = (42, SE zs false []) := by rw [M5.out]; rfl
    rw [e7] at hm7 ⊢
    have N7 : Hid (Net w7 B b row (.map none) [c7]) := D7.net
    have L7 : Hid (Below B W w7) := L6.out.trans (D7.below N6.out)
    have M7 : Hid (c7.m = SE zs false []) := hm7
    clear e7 hm7 D7
    clear N6 L6 M5 N5 L5 u4 M4 N4 L4 u3 M3 N3 L3 N2 L2 N1 L1 L0 S0
    go_wp2_with fail
    go_loopw [8, 9] (fun t8 t9 wr => ∃ (i : Nat) (av : Option Addr) (nv cv : Nat) (got us : List Int) (t : Bool) (c : Cn), i ≤ n2 ∧ t8 = .slice av nv cv ∧ t9 = .int .i64 i ∧ Hid (Net wr B b row (.map none) [c]) ∧ Hid (c.m = SE us t []) ∧ Hid (got ++ us = zs) ∧ Hid (t = true → us = []) ∧ Hid (Apt wr B b row [c] (.slice av nv cv) got) ∧ Hid (Below B W wr)) (fun _ t _ => n2 - (intOf t).toNat)
    case atStart => exact ⟨0, none, 0, 0, [], zs, false, c7, Nat.zero_le _, rfl, rfl, N7, M7, rfl, (fun h => by cases h), Apt.nil _ _ _ _ _, L7⟩
    case round =>
      obtain ⟨i, av, nv, cv, got, us, t, c, hi, rfl, rfl, Nr, Mr, Hz, Ht, Ar, Lr⟩ := hrel
      clear N7 M7 L7
      by_cases hlt : i < n2
      · obtain ⟨b2, o2, rfl, f2⟩ : ∃ b2 o2, a2 = some ⟨b2, o2, none⟩ ∧ ∀ j, j < n2 → W.cell? ⟨b2, o2 + j, none⟩ = some (.int .i64 (ks.getD j 0)) := HK.out.resolve_left (by omega)
        have hcell : wr.cell? ⟨b2, o2 + i, none⟩ = some (.int .i64 (ks.getD i 0)) :=
          (Lr.out.cell (p := ⟨b2, o2 + i, none⟩) (by rw [← HB.out]; exact World.block_lt_of_cell? W _ (f2 i hlt))).trans (f2 i hlt)
        obtain ⟨k, hk⟩ : ∃ k, ks.getD i 0 = k := ⟨_, rfl⟩
        rw [hk] at hcell
        clear f2 hk
        have hus : (c.sd false).us.length + (c.sd (!false)).ar.length ≤ 140737488355328 := by
          rw [← m_us, ← m_ar, Mr.out]
          have h1 := congrArg List.length Hz.out
          have := HSL.out
          simp at h1
          show us.length + 0 ≤ _
          omega
        by_cases hneg : k < 0
        · go_wp2_with fail
          refine (npass Nr.out 0 _ rfl false k hus).mono ?_
          rintro e w8 ⟨rfl, c8, hm8, D8⟩
          rw [pass_neg _ _ _ hneg] at hm8 ⊢
          have R : Hid (∃ c', Net w8 B b row (.map none) [c'] ∧ c'.m = SE us t [] ∧ Apt w8 B b row [c'] (.slice av nv cv) got ∧ Below B W w8) := ⟨c8, D8.net, hm8.trans Mr.out, Ar.out.step D8, Lr.out.trans (D8.below Nr.out)⟩
          clear hm8 D8
          go_wp2_with fail
          go_roundw
          case rel =>
            obtain ⟨c', r1, r2, r3, r4⟩ := R.out
            exact ⟨i + 1, av, nv, cv, got, us, t, c', by omega, rfl, by go_num, r1, r2, Hz, Ht, r3, r4⟩
          case measure => simp [intOf]; omega
        · go_wp2_with fail
          refine (npass Nr.out 0 _ rfl false k hus).mono ?_
          rintro e w8 ⟨rfl, c8, hm8, D8⟩
          rw [Mr.out, pass_SE us t k (by omega)] at hm8 ⊢
          obtain ⟨m, hm⟩ : ∃ m, mK (SE us t []) false k = m := ⟨_, rfl⟩
          have hmu : m ≤ us.length := by rw [← hm]; show (min k (us.length : Int)).toNat ≤ _; omega
          rw [hm] at hm8 ⊢
          have N8 : Hid (Net w8 B b row (.map none) [c8]) := D8.net
          have A8 : Hid (Apt w8 B b row [c8] (.slice av nv cv) got) := Ar.out.step D8
          have L8 : Hid (Below B W w8) := Lr.out.trans (D8.below Nr.out)
          have M8 : Hid (c8.m = SE (us.drop m) (if m = us.length then true else t) (us.take m)) := hm8
          have HM : Hid (m ≤ us.length) := hmu
          clear hm8 D8 hm hmu hus
          go_wp2_with fail
          refine (nread N8.out 0 _ rfl true).mono ?_
          rintro e w9 ⟨v9, rfl, c9, hm9, D9, G9⟩
          rw [M8.out, read_SE] at hm9 G9 ⊢
          have N9 : Hid (Net w9 B b row (.map none) [c9]) := D9.net
          have A9 : Hid (Apt w9 B b row [c9] (.slice av nv cv) got) := A8.out.step D9
          have L9 : Hid (Below B W w9) := L8.out.trans (D9.below N8.out)
          obtain ⟨t', ht'⟩ : ∃ t', (if m = us.length then true else t) = t' := ⟨_, rfl⟩
          rw [ht'] at hm9 ⊢
          have HT' : Hid ((if m = us.length then true else t) = t') := ht'
          have M9 : Hid (c9.m = SE (us.drop m) t' []) := hm9
          have HG : Hid (Got w9 B b row [c8] [c9] v9 (us.take m)) := G9
          obtain ⟨aq, cq, hvq, hbq, hhq, _⟩ := G9.buf.form
          subst hvq
          have hlq : (us.take m).length = m := by have := HM.out; simp; omega
          rw [hlq] at HG ⊢
          have HQ : Hid (Has w9 aq (us.take m)) := hhq
          have HO : Hid (Octets (us.take m)) := G9.buf.1
          have HLQ : Hid ((us.take m).length = m) := hlq
          have hsmall : Hid (got.length + m ≤ 140737488355328) := by
            have h1 := congrArg List.length Hz.out
            have := HSL.out
            have := HM.out
            simp at h1
            show got.length + m ≤ _
            omega
          have hB9 : Hid (B ≤ w9.heap.size) := by have := L9.out.size; have := HB.out; show B ≤ _; omega
          clear hm9 D9 G9 hhq hlq ht' M8 Mr
          cases t'
          · go_wp2_with (at_builtin; refine wpList_append_buf _ rfl (.tmp 87) (.tmp 88) 32 rfl B i0 Try.underlying32 i0i hz0 hz1 hz2 (.slice av nv cv) got rfl A9.out.buf aq m cq (us.take m) rfl HLQ.out hbq HQ.out HO.out hsmall.out hB9.out ?_; intro v' w10 hB10 hg10 hat10; obtain ⟨R, Rt, Rf⟩ := ends_round Hz.out HM.out Ht.out HT'.out N9.out M9.out A9.out L9.out hB9.out hB10 hg10 hat10; obtain ⟨av', cv', rfl, _⟩ := hB10.form; have hL := Rf rfl; obtain ⟨L, hLL⟩ : ∃ L, (got ++ us.take m).length = L := ⟨_, rfl⟩; rw [HSL.out, hLL] at hL; rw [hLL] at R ⊢;  clear hB10 hg10 hat10 Rt Rf hLL)
            go_roundw
            case rel =>
              obtain ⟨r1, r2, r3, r4, r5, r6⟩ := R.out
              exact ⟨i + 1, _, _, _, _, _, _, c9, by omega, rfl, by go_num, r1, r2, r3, r4, r5, r6⟩
            case measure => simp [intOf]; omega
          · go_wp2_with (at_builtin; refine wpList_append_buf _ rfl (.tmp 87) (.tmp 88) 32 rfl B i0 Try.underlying32 i0i hz0 hz1 hz2 (.slice av nv cv) got rfl A9.out.buf aq m cq (us.take m) rfl HLQ.out hbq HQ.out HO.out hsmall.out hB9.out ?_; intro v' w10 hB10 hg10 hat10; obtain ⟨R, Rt, Rf⟩ := ends_round Hz.out HM.out Ht.out HT'.out N9.out M9.out A9.out L9.out hB9.out hB10 hg10 hat10; obtain ⟨av', cv', rfl, _⟩ := hB10.form; have hL := Rt rfl; obtain ⟨L, hLL⟩ : ∃ L, (got ++ us.take m).length = L := ⟨_, rfl⟩; rw [HSL.out, hLL] at hL; rw [hLL] at R ⊢; subst hL; clear hB10 hg10 hat10 Rt Rf hLL)
            go_roundw
            case rel =>
              obtain ⟨r1, r2, r3, r4, r5, r6⟩ := R.out
              exact ⟨i + 1, _, _, _, _, _, _, c9, by omega, rfl, by go_num, r1, r2, r3, r4, r5, r6⟩
            case measure => simp [intOf]; omega
      · have hus : (c.sd false).us.length + (c.sd (!false)).ar.length ≤ 140737488355328 := by
          rw [← m_us, ← m_ar, Mr.out]
          have h1 := congrArg List.length Hz.out
          have := HSL.out
          simp at h1
          show us.length + 0 ≤ _
          omega
        go_wp2_with fail
        refine (npass Nr.out 0 _ rfl false n hus).mono ?_
        rintro e w8 ⟨rfl, c8, hm8, D8⟩
        rw [Mr.out, pass_SE us t n (by omega)] at hm8 ⊢
        have hm : mK (SE us t []) false n = us.length := by
          have h1 := congrArg List.length Hz.out
          have := HSL.out
          simp at h1
          show (min (n : Int) (us.length : Int)).toNat = _
          omega
        rw [hm] at hm8 ⊢
        have N8 : Hid (Net w8 B b row (.map none) [c8]) := D8.net
        have A8 : Hid (Apt w8 B b row [c8] (.slice av nv cv) got) := Ar.out.step D8
        have L8 : Hid (Below B W w8) := Lr.out.trans (D8.below Nr.out)
        have M8 : Hid (c8.m = SE [] true us) := by show c8.m = SE [] true us; rw [hm8]; simp
        clear hm8 D8 hm hus
        go_wp2_with fail
        refine (nread N8.out 0 _ rfl true).mono ?_
        rintro e w9 ⟨v9, rfl, c9, hm9, D9, G9⟩
        rw [M8.out, read_SE] at hm9 G9 ⊢
        have N9 : Hid (Net w9 B b row (.map none) [c9]) := D9.net
        have A9 : Hid (Apt w9 B b row [c9] (.slice av nv cv) got) := A8.out.step D9
        have L9 : Hid (Below B W w9) := L8.out.trans (D9.below N8.out)
        have M9 : Hid (c9.m = SE [] true []) := hm9
        obtain ⟨aq, cq, hvq, hbq, hhq, _⟩ := G9.buf.form
        subst hvq
        have HQ : Hid (Has w9 aq us) := hhq
        have HO : Hid (Octets us) := G9.buf.1
        obtain ⟨m, hlq⟩ : ∃ m, us.length = m := ⟨_, rfl⟩
        rw [hlq]
        have HLQ : Hid (us.length = m) := hlq
        have hsmall : Hid (got.length + m ≤ 140737488355328) := by
          have h1 := congrArg List.length Hz.out
          have := HSL.out
          simp at h1
          show got.length + m ≤ _
          omega
        have hB9 : Hid (B ≤ w9.heap.size) := by have := L9.out.size; have := HB.out; show B ≤ _; omega
        clear hm9 D9 G9 hhq hlq M8 Mr
        go_wp2_with (at_builtin; refine wpList_append_buf _ rfl (.tmp 113) (.tmp 114) 32 rfl B i0 Try.underlying32 i0i hz0 hz1 hz2 (.slice av nv cv) got rfl A9.out.buf aq m cq us rfl HLQ.out hbq HQ.out HO.out hsmall.out hB9.out ?_; intro v' w10 hB10 hg10 hat10; rw [Hz.out] at hB10; have N10 : Hid (Net w10 B b row (.map none) [c9]) := N9.out.grown hg10 (fun g h => A9.out.out g h); have A10 : Hid (Apt w10 B b row [c9] v' zs) := A9.out.more N9.out hB10 hat10; have L10 : Hid (Below B W w10) := L9.out.grown hg10 hB9.out (fun k hk => (A9.out.buf.low hk).1); obtain ⟨av', cv', rfl, _⟩ := hB10.form; rw [HSL.out] at A10 ⊢; clear hB10 hg10 hat10)
        refine (nread N10.out 0 _ rfl false).mono ?_
        rintro e w11 ⟨v11, rfl, c11, hm11, D11, G11⟩
        have e11 : mRead c9.m false = ([], false, 0, SE [] true []) := by rw [M9.out]; rfl
        rw [e11]
        have A11 : Hid (Apt w11 B b row [c11] (.slice av' n cv') zs) := A10.out.step D11
        have L11 : Hid (Below B W w11) := L10.out.trans (D11.below N10.out)
        clear hm11 D11 G11 e11
        go_wp2_with fail
        have hh : Has w11 av' zs := by
          obtain ⟨_, _, e, _, h, _⟩ := A11.out.buf.form
          cases e
          exact h
        refine (same_any av' a n cv' cap zs w11 HSL.out hh (HS.out.has.of_below (by rw [HB.out]; exact L11.out)) hsm).mono ?_
        rintro e w12 ⟨rfl, q, hq⟩
        have L12 : Hid (Below B W w12) := by rw [hq]; exact below_drewN L11.out q
        clear hq hh
        go_wp2_with fail
        go_ret
        exact ⟨rfl, L12.out⟩
theorem ends_any (W : World) (a : Option Addr) (n cap : Nat) (zs : List Int) (hs : Bs W a n cap zs) (a2 : Option Addr) (n2 cap2 : Nat) (ks : List Int) (hk2 : n2 = 0 ∨ ∃ b2 o2, a2 = some ⟨b2, o2, none⟩ ∧ ∀ j, j < n2 → W.cell? ⟨b2, o2 + j, none⟩ = some (.int .i64 (ks.getD j 0))) (hn2 : n2 ≤ 140737488355328) :
    Calls Try.prog 5 #[.slice a n cap, .slice a2 n2 cap2] W fun e w' => e = .returned (.bool true) ∧ Below W.heap.size W w' :=
  ends_at W _ rfl a n cap zs hs a2 n2 cap2 ks hk2 hn2
end Go.Proofs.Ytcbnmoppnoiggaa
