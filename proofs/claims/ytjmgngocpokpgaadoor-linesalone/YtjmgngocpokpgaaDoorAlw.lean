/-
  LinesAlone.
-/
import Derived.Test.YtjmgngocpokpgaaDoorAlm
import Derived.Test.YtjmgngocpokpgaaDoorOw
namespace Go.Proofs.YtjmgngocpokpgaaDoor
open Go.RowKit
set_option linter.unusedVariables false
set_option linter.unusedSimpArgs false
theorem Buf.alloc {w : World} {base : Nat} {v : Value} {zs : List Int} (h : Buf w base v zs) (o : Obj) : Buf (w.alloc o) base v zs :=
  h.keep fun k hk => Go.heap_alloc_old w o (h.low hk).2
theorem zL_join (l1 l2 : List UInt8) : zL l1 ++ [10] ++ zL l2 = zL (l1 ++ 10 :: l2) := by simp [zL]
theorem oct_ten : Octets [10] := fun i => by rcases i with _ | i <;> simp
theorem ends_snoc (l : List UInt8) (i : Nat) (h : i < l.length) : endsOf (l.take (i + 1)) = endsOf (l.take i) + if l[i].toNat = 10 then 1 else 0 := by
  unfold endsOf
  rw [List.take_add_one, List.getElem?_eq_getElem h, Option.toList_some, List.count_append, List.count_singleton]
  have : (l[i] == 10) = decide (l[i].toNat = 10) := by
    rw [Bool.eq_iff_iff]
    simp [← UInt8.toNat_inj]
  rw [this]
  by_cases hh : l[i].toNat = 10 <;> simp [hh]
set_option maxRecDepth 100000 in
set_option maxHeartbeats 8000000 in
theorem alone_any (a1 : Option Addr) (n1 c1 : Nat) (l1 : List UInt8) (a2 : Option Addr) (n2 c2 : Nat) (l2 : List UInt8) (w : World) (hm : HasM w)
    (hn1 : l1.length = n1) (hB1 : Has w a1 (zL l1)) (hbare1 : a1 = none → c1 = 0) (hl1 : n1 ≤ 1048576) (hn2 : l2.length = n2) (hB2 : Has w a2 (zL l2)) (hbare2 : a2 = none → c2 = 0) (hl2 : n2 ≤ 1048576) :
    Calls Tryd.prog 7 #[.slice a1 n1 c1, .slice a2 n2 c2] w fun e w' => e = .returned (.bool true) ∧ Below w.heap.size w w' := by
  obtain ⟨i5, hi5, hz50, hz51, hz52⟩ := info_parts Tryd.info5
  have hw0 := hm.lt
  go_enter Tryd.func7, Tryd.ntmps7
  go_wp2_with fail
  refine (awake_any w hm).mono ?_
  rintro e w1 ⟨rfl, b1⟩
  have HM1 := hide2 (hm.below b1 hw0)
  have HA1 := hide2 (hB1.of_below b1)
  have HA2 := hide2 (hB2.of_below b1)
  have HB1 := hide2 b1
  have HN1 := hide2 hn1
  have HN2 := hide2 hn2
  clear b1 hB1 hB2 hm hn1 hn2
  have HZ := hide2 (buf_none w1)
  go_wp2_with (at_builtin; refine wpList_append_buf _ rfl (.tmp 22) (.tmp 23) 22 rfl w1.heap.size i5 Tryd.underlying22 hi5 hz50 hz51 hz52 (.slice (some ⟨w1.heap.size, 0, none⟩) 0 0) [] rfl HZ.out a1 n1 c1 (zL l1) rfl (by rw [zL_length]; exact HN1.out) hbare1 (HA1.out.of_below ((Below.refl _ w1).alloc (Nat.le_refl _) _)) (oct_zL l1) (by simp; omega) (by simp) ?_; intro v2 w2 hbuf hgr _)
  rw [List.nil_append] at hbuf
  have b2 : Below w1.heap.size w1 w2 := below_buf hgr (fun k hk => by cases hk; exact Nat.le_refl _)
  clear hgr HZ
  obtain ⟨ao, ci, hv2, _, hHi, _, hci⟩ := hbuf.form
  rw [zL_length, HN1.out] at hv2
  subst hv2
  have HM2 := hide2 (HM1.out.below b2 HM1.out.lt)
  have HB2 := hide2 (HB1.out.trans (b2.mono HB1.out.size))
  have HA2b := hide2 (HA2.out.of_below b2)
  have HA1b := hide2 (HA1.out.of_below b2)
  clear hbuf b2 HA2 HA1 HM1 HB1
  obtain ⟨T1, hT⟩ : ∃ T, toksOf (scnF l1) = T := ⟨_, rfl⟩
  obtain ⟨fd1, fl1, fe1, hF⟩ : ∃ fd fl fe, fltOf (scnF l1) = (fd, fl, fe) := ⟨_, _, _, rfl⟩
  obtain ⟨N1, hN⟩ : ∃ N, T1.length = N := ⟨_, rfl⟩
  have hN1l : N1 ≤ 65537 := by rw [← hN, ← hT]; exact toks_few l1
  have HT1 := hide2 hT
  have HF1 := hide2 hF
  have HNN1 := hide2 hN
  clear hT hF hN
  refine (scan_call ao n1 ci l1 w2 HN1.out hHi (by unfold maxLen; omega) HM2.out T1 fd1 fl1 fe1 N1 HNN1.out HT1.out HF1.out).mono ?_
  rintro e w3 ⟨ava, ca, rfl, hra, hava, b3⟩
  have HRA := hide2 hra
  have hs3 := b3.size
  have HM3 := hide2 (HM2.out.below b3 HM2.out.lt)
  have HB3 := hide2 (HB2.out.trans (b3.mono HB2.out.size))
  have HA2c := hide2 (HA2b.out.of_below b3)
  have HA1c := hide2 (HA1b.out.of_below b3)
  clear hra b3 HM2 HB2 HA2b HA1b hHi
  obtain ⟨o3, ho3⟩ : ∃ o : Obj, o = .cells #[.int .i64 fd1, .int .i64 fl1, .int .i64 fe1] 32 := ⟨_, rfl⟩
  have b3a : Below w3.heap.size w3 (w3.alloc o3) := (Below.refl _ w3).alloc (Nat.le_refl _) _
  have HZ : Hid (Buf ((w3.alloc o3).alloc (.cells #[] 5 (0, 0))) (w3.heap.size + 1) (.slice (some ⟨w3.heap.size + 1, 0, none⟩) 0 0) []) := by
    have := buf_none (w3.alloc o3)
    rwa [World.size_alloc] at this
  have HA2d : Hid (Has ((w3.alloc o3).alloc (.cells #[] 5 (0, 0))) a2 (zL l2)) := HA2c.out.of_below (b3a.alloc (by simp) _)
  have HB3a := hide2 b3a
  clear b3a
  subst ho3
  go_wp2_with (at_builtin; refine wpList_append_buf _ rfl (.tmp 29) (.tmp 30) 22 rfl (w3.heap.size + 1) i5 Tryd.underlying22 hi5 hz50 hz51 hz52 (.slice (some ⟨w3.heap.size + 1, 0, none⟩) 0 0) [] rfl HZ.out a2 n2 c2 (zL l2) rfl (by rw [zL_length]; exact HN2.out) hbare2 HA2d.out (oct_zL l2) (by simp; omega) (by simp) ?_; intro v4 w4 hbuf hgr _)
  rw [List.nil_append] at hbuf
  have k4 : w4.heap[w3.heap.size]? = some (.cells #[.int .i64 fd1, .int .i64 fl1, .int .i64 fe1] 32 (0, 0)) := (hgr.block w3.heap.size (by simp; omega) (fun e => by have := Option.some.inj (show some w3.heap.size = some (w3.heap.size + 1) from e); omega)).trans ((Go.heap_alloc_old _ _ (by simp)).trans (Go.heap_alloc_new w3 _))
  have b4 : Below w3.heap.size w3 w4 := (HB3a.out.alloc (by simp) _).grown hgr (by simp; omega) (fun k hk => by have := Option.some.inj (show some (w3.heap.size + 1) = some k from hk); omega)
  have hs4 : w3.heap.size + 2 ≤ w4.heap.size := by have := hgr.size; simp at this; omega
  clear hgr HZ HB3a
  obtain ⟨ao4, ci4, hv4, _, hHi4, _, hci4⟩ := hbuf.form
  rw [zL_length, HN2.out] at hv4
  subst hv4
  have HM4 := hide2 (HM3.out.below b4 HM3.out.lt)
  have HB4 := hide2 (HB3.out.trans (b4.mono HB3.out.size))
  have HA2e := hide2 (HA2c.out.of_below b4)
  have HA1e := hide2 (HA1c.out.of_below b4)
  have HRA4 : Hid (w4.ownsRow w2.heap.size 39 5 (.slice ava N1 ca) N1 (T1.flatMap Tk.row)) := own_blk HRA.out (fun k hk => b4.block k (HRA.out.lt k hk).2)
  have K4 := hide2 k4
  clear hbuf b4 HA2d HA2c HA1c HM3 HB3 HRA k4
  obtain ⟨T2, hT⟩ : ∃ T, toksOf (scnF l2) = T := ⟨_, rfl⟩
  obtain ⟨fd2, fl2, fe2, hF⟩ : ∃ fd fl fe, fltOf (scnF l2) = (fd, fl, fe) := ⟨_, _, _, rfl⟩
  obtain ⟨N2, hN⟩ : ∃ N, T2.length = N := ⟨_, rfl⟩
  have hN2l : N2 ≤ 65537 := by rw [← hN, ← hT]; exact toks_few l2
  have HT2 := hide2 hT
  have HF2 := hide2 hF
  have HNN2 := hide2 hN
  clear hT hF hN
  refine (scan_call ao4 n2 ci4 l2 w4 HN2.out hHi4 (by unfold maxLen; omega) HM4.out T2 fd2 fl2 fe2 N2 HNN2.out HT2.out HF2.out).mono ?_
  rintro e w5 ⟨avb, cb, rfl, hrb, havb, b5⟩
  have HRB := hide2 hrb
  have hs5 := b5.size
  have HM5 := hide2 (HM4.out.below b5 HM4.out.lt)
  have HB5 := hide2 (HB4.out.trans (b5.mono HB4.out.size))
  have HA25 := hide2 (HA2e.out.of_below b5)
  have HA15 := hide2 (HA1e.out.of_below b5)
  have HRA5 : Hid (w5.ownsRow w2.heap.size 39 5 (.slice ava N1 ca) N1 (T1.flatMap Tk.row)) := own_blk HRA4.out (fun k hk => b5.block k (HRA4.out.lt k hk).2)
  have K5 := hide2 ((b5.block w3.heap.size (by omega)).trans K4.out)
  clear hrb b5 HM4 HB4 HA2e HA1e hHi4 HRA4 K4
  obtain ⟨o5, ho5⟩ : ∃ o : Obj, o = .cells #[.int .i64 fd2, .int .i64 fl2, .int .i64 fe2] 32 := ⟨_, rfl⟩
  have b5a : Below w5.heap.size w5 (w5.alloc o5) := (Below.refl _ w5).alloc (Nat.le_refl _) _
  have HZ : Hid (Buf ((w5.alloc o5).alloc (.cells #[] 5 (0, 0))) (w5.heap.size + 1) (.slice (some ⟨w5.heap.size + 1, 0, none⟩) 0 0) []) := by
    have := buf_none (w5.alloc o5)
    rwa [World.size_alloc] at this
  have HA1d : Hid (Has ((w5.alloc o5).alloc (.cells #[] 5 (0, 0))) a1 (zL l1)) := HA15.out.of_below (b5a.alloc (by simp) _)
  have HB5a := hide2 b5a
  clear b5a
  subst ho5
  go_wp2_with first
    | (at_builtin; refine wpList_append_buf _ rfl (.tmp 35) (.tmp 36) 22 rfl (w5.heap.size + 1) i5 Tryd.underlying22 hi5 hz50 hz51 hz52 (.slice (some ⟨w5.heap.size + 1, 0, none⟩) 0 0) [] rfl HZ.out a1 n1 c1 (zL l1) rfl (by rw [zL_length]; exact HN1.out) hbare1 HA1d.out (oct_zL l1) (by simp; omega) (by simp) ?_; intro v6 w6 hbuf6 hgr6 _; rw [List.nil_append] at hbuf6
       have HG6 := hide2 hgr6
       have HBF6 := hide2 hbuf6
       have hb6 : w5.heap.size + 1 ≤ w6.heap.size := Nat.le_trans (by simp) hgr6.size
       have H10 : Hid (Has (w6.alloc (.cells #[.int .u8 10] 5 (0, 0))) (some ⟨w6.heap.size, 0, none⟩) [10]) := Has.of_block (heap_alloc_new w6 _)
       clear hgr6 hbuf6)
    | (at_builtin; refine wpList_append_buf _ rfl (.tmp 38) (.tmp 39) 22 rfl (w5.heap.size + 1) i5 Tryd.underlying22 hi5 hz50 hz51 hz52 v6 (zL l1) rfl (HBF6.out.alloc _) (some ⟨w6.heap.size, 0, none⟩) 1 1 [10] rfl rfl (fun h => by cases h) H10.out oct_ten (by rw [zL_length, HN1.out]; omega) (by simp; omega) ?_; intro v7 w7 hbuf7 hgr7 _
       have HG7 := hide2 hgr7
       have HBF7 := hide2 hbuf7
       clear hgr7 hbuf7)
  have low6 : ∀ k, v6.ownBlock = some k → w5.heap.size + 1 ≤ k := fun k hk => (HBF6.out.low hk).1
  have b6 : Below w5.heap.size w5 w6 := (HB5a.out.alloc (by simp) _).grown HG6.out (by simp; omega) (fun k hk => by have := Option.some.inj (show some (w5.heap.size + 1) = some k from hk); omega)
  have b7 : Below w5.heap.size w5 w7 := (b6.alloc b6.size _).grown HG7.out (by have := b6.size; simp; omega) (fun k hk => by have := low6 k hk; omega)
  have k6 : w6.heap[w5.heap.size]? = some (.cells #[.int .i64 fd2, .int .i64 fl2, .int .i64 fe2] 32 (0, 0)) := (HG6.out.block w5.heap.size (by simp; omega) (fun e => by have := Option.some.inj (show some w5.heap.size = some (w5.heap.size + 1) from e); omega)).trans ((Go.heap_alloc_old _ _ (by simp)).trans (Go.heap_alloc_new w5 _))
  have k7 : w7.heap[w5.heap.size]? = some (.cells #[.int .i64 fd2, .int .i64 fl2, .int .i64 fe2] 32 (0, 0)) := (HG7.out.block w5.heap.size (by simp; omega) (fun e => by have := low6 _ e.symm; omega)).trans ((Go.heap_alloc_old _ _ (by omega)).trans k6)
  have hs7 : w5.heap.size + 1 ≤ w7.heap.size := by have := HG7.out.size; simp at this; omega
  have HM7 := hide2 (HM5.out.below b7 HM5.out.lt)
  have HB7 := hide2 (HB5.out.trans (b7.mono HB5.out.size))
  have HB7w := hide2 HB5.out.size
  have HA27 := hide2 (HA25.out.of_below b7)
  have HA17 := hide2 (HA15.out.of_below b7)
  have HRA7 : Hid (w7.ownsRow w2.heap.size 39 5 (.slice ava N1 ca) N1 (T1.flatMap Tk.row)) := own_blk HRA5.out (fun k hk => b7.block k (HRA5.out.lt k hk).2)
  have HRB7 : Hid (w7.ownsRow w4.heap.size 39 5 (.slice avb N2 cb) N2 (T2.flatMap Tk.row)) := own_blk HRB.out (fun k hk => b7.block k (HRB.out.lt k hk).2)
  have HLA := hide2 (fun k hk => (HRA5.out.lt k hk).2 : ∀ k, (Value.slice ava N1 ca).ownBlock = some k → k < w5.heap.size)
  have HLB := hide2 (fun k hk => (HRB.out.lt k hk).2 : ∀ k, (Value.slice avb N2 cb).ownBlock = some k → k < w5.heap.size)
  have K17 := hide2 ((b7.block w3.heap.size (by omega)).trans K5.out)
  have K27 := hide2 k7
  clear low6 b6 b7 k6 k7 HM5 HB5 HA25 HA15 HRA5 HRB K5 HG6 HG7 HBF6 H10 HB5a HZ HA1d hb6
  have hn1i : (n1 : Int) ≤ 1048576 := by omega
  go_loopw [10, 12] (fun u t wr => ∃ i : Nat, t = .int .i64 i ∧ u = .int .i64 ((endsOf (l1.take i) + 1 : Nat) : Int) ∧ i ≤ n1 ∧ wr = w7) (fun _ t _ => n1 - (intOf t).toNat)
  case atStart => exact ⟨0, rfl, by simp [endsOf], by omega, rfl⟩
  case round =>
    obtain ⟨i, rfl, rfl, hi, rfl⟩ := hrel
    have i0 : (0 : Int) ≤ i := by omega
    obtain ⟨en, hen⟩ : ∃ en, endsOf (l1.take i) + 1 = en := ⟨_, rfl⟩
    have henl : (en : Int) ≤ 1048577 := by
      have : endsOf (l1.take i) ≤ (l1.take i).length := List.count_le_length
      rw [List.length_take] at this
      omega
    have en0 : (0 : Int) ≤ en := by omega
    rw [hen]
    have HEN := hide2 hen
    clear hen
    by_cases hin : i < n1
    · have hi2 : (i : Int) < n1 := by omega
      have hil : i < l1.length := by rw [HN1.out]; exact hin
      obtain ⟨x, rfl, hc⟩ : ∃ x, a1 = some x ∧ wr.cell? (x.add i) = some (.int .u8 (l1[i].toNat : Int)) := by
        rcases HA17.out with ⟨_, h⟩ | ⟨x, rfl, h⟩
        · have : (zL l1).length = 0 := by rw [h]; rfl
          rw [zL_length] at this
          omega
        · refine ⟨x, rfl, ?_⟩
          have := h i (by rw [zL_length]; exact hil)
          simpa [zL, List.getD, hil] using this
      have HES := hide2 (ends_snoc l1 i hil)
      generalize l1[i].toNat = c at hc HES
      by_cases hct : c = 10
      · subst hct
        go_wp2_with fail
        go_roundw
        case rel => exact ⟨i + 1, by go_num, by have h1 := HES.out; rw [if_pos rfl] at h1; have h2 := HEN.out; simp; omega, by omega, trivial⟩
        case measure => simp [intOf]; omega
      · have hct2 : ¬ (c : Int) = 10 := by omega
        go_wp2_with fail
        go_roundw
        case rel => exact ⟨i + 1, by go_num, by have h1 := HES.out; rw [if_neg hct] at h1; have h2 := HEN.out; simp; omega, by omega, trivial⟩
        case measure => simp [intOf]; omega
    · have hi2 : ¬ (i : Int) < n1 := by omega
      have hE : en = endsOf l1 + 1 := by
        have h1 := HEN.out
        rw [List.take_of_length_le (by rw [HN1.out]; omega)] at h1
        omega
      have HE := hide2 hE
      clear hE HEN
      have hsj : (zL l1 ++ [10]).length + n2 ≤ 140737488355328 := by rw [List.length_append, zL_length, HN1.out]; simp; omega
      go_wp2_with (at_builtin; refine wpList_append_buf _ rfl (.tmp 54) (.tmp 55) 22 rfl (w5.heap.size + 1) i5 Tryd.underlying22 hi5 hz50 hz51 hz52 v7 (zL l1 ++ [10]) rfl HBF7.out a2 n2 c2 (zL l2) rfl (by rw [zL_length]; exact HN2.out) hbare2 HA27.out (oct_zL l2) hsj hs7 ?_; intro v8 w8 hbuf hgr _)
      have b8 : Below (w5.heap.size + 1) wr w8 := (Below.refl _ wr).grown hgr hs7 (fun k hk => (HBF7.out.low hk).1)
      rw [zL_join] at hbuf
      obtain ⟨L, hL⟩ : ∃ L, l1 ++ 10 :: l2 = L := ⟨_, rfl⟩
      obtain ⟨n3, hn3⟩ : ∃ n, n1 + n2 + 1 = n := ⟨_, rfl⟩
      rw [hL] at hbuf
      have hLl : L.length = n3 := by rw [← hL, ← hn3, List.length_append, List.length_cons, HN1.out, HN2.out]; omega
      have hn3l : n3 ≤ 2097153 := by omega
      obtain ⟨ao8, ci8, hv8, _, hHi8, _, hci8⟩ := hbuf.form
      rw [zL_length, hLl] at hv8
      subst hv8
      have HRA8 : Hid (w8.ownsRow w2.heap.size 39 5 (.slice ava N1 ca) N1 (T1.flatMap Tk.row)) := own_blk HRA7.out (fun k hk => b8.block k (by have := HLA.out k hk; omega))
      have HRB8 : Hid (w8.ownsRow w4.heap.size 39 5 (.slice avb N2 cb) N2 (T2.flatMap Tk.row)) := own_blk HRB7.out (fun k hk => b8.block k (by have := HLB.out k hk; omega))
      have K18 := hide2 ((b8.block w3.heap.size (by omega)).trans K17.out)
      have K28 := hide2 ((b8.block w5.heap.size (by omega)).trans K27.out)
      have hw5 : w.heap.size ≤ w5.heap.size + 1 := Nat.le_trans HB7w.out (by omega)
      have hs8 := b8.size
      have HB8 := hide2 (HB7.out.trans (b8.mono hw5))
      have HM8 := hide2 (HM7.out.below b8 (by omega))
      have HHi8 := hide2 hHi8
      have HLl := hide2 hLl
      have HL := hide2 hL
      clear hbuf hgr b8 hHi8 hLl hL HRA7 HRB7 K17 K27 HB7 HM7 HBF7 HA27 HA17 HLA HLB hsj
      obtain ⟨T3, hT⟩ : ∃ T, toksOf (scnF L) = T := ⟨_, rfl⟩
      obtain ⟨fd3, fl3, fe3, hF⟩ : ∃ fd fl fe, fltOf (scnF L) = (fd, fl, fe) := ⟨_, _, _, rfl⟩
      obtain ⟨N3, hN⟩ : ∃ N, T3.length = N := ⟨_, rfl⟩
      have hN3l : N3 ≤ 65537 := by rw [← hN, ← hT]; exact toks_few L
      have HT3 := hide2 hT
      have HF3 := hide2 hF
      have HNN3 := hide2 hN
      clear hT hF hN
      refine (scan_call ao8 n3 ci8 L w8 HLl.out HHi8.out (by unfold maxLen; omega) HM8.out T3 fd3 fl3 fe3 N3 HNN3.out HT3.out HF3.out).mono ?_
      rintro e w9 ⟨avc, cc, rfl, hrc, havc, b9⟩
      have hs9 := b9.size
      have HRA : Hid (w9.ownsRow w2.heap.size 39 5 (.slice ava N1 ca) N1 (T1.flatMap Tk.row)) := own_blk HRA8.out (fun k hk => b9.block k (HRA8.out.lt k hk).2)
      have HRB : Hid (w9.ownsRow w4.heap.size 39 5 (.slice avb N2 cb) N2 (T2.flatMap Tk.row)) := own_blk HRB8.out (fun k hk => b9.block k (HRB8.out.lt k hk).2)
      have HRC := hide2 hrc
      have k1 := (b9.block w3.heap.size (by omega)).trans K18.out
      have k2 := (b9.block w5.heap.size (by omega)).trans K28.out
      have HB9 := hide2 (HB8.out.trans (b9.mono HB8.out.size))
      have p10 := cell_of k1 0 _ rfl
      have p11 := cell_of k1 1 _ rfl
      have p12 := cell_of k1 2 _ rfl
      have p20 := cell_of k2 0 _ rfl
      have p21 := cell_of k2 1 _ rfl
      have p22 := cell_of k2 2 _ rfl
      have hq1 : w3.heap.size < w9.heap.size := by omega
      have hq2 : w5.heap.size < w9.heap.size := by omega
      clear hrc b9 k1 k2 HRA8 HRB8 K18 K28 HB8 HM8 HHi8
      by_cases hlong : 65536 < n3
      · have hlong2 : (65536 : Int) < n3 := by omega
        obtain ⟨h1, h2⟩ := alone_long L (by rw [HLl.out]; exact hlong)
        have e1 : T3 = [] := HT3.out.symm.trans h1
        have e2 : ((fd3, fl3, fe3) : Int × Int × Int) = (0, 0, 3) := HF3.out.symm.trans h2
        have e3 : N3 = 0 := by have := HNN3.out; rw [e1] at this; exact this.symm
        cases e2
        subst e3
        clear h1 h2 e1
        go_wp2
        go_ret
        refine ⟨ret_bool ?_, HB9.out.alloc HB9.out.size _⟩
        simp
      · have hlong2 : ¬ (65536 : Int) < n3 := by omega
        have AL := alone l1 l2 (by rw [HL.out, HLl.out]; omega)
        rw [HL.out, HT1.out, HT2.out, HT3.out, HF1.out, HF2.out, HF3.out, ← HE.out] at AL
        rcases AL with ⟨h1, h2, h3, h4⟩ | AL
        · have e1 : N1 = 0 := by have := HNN1.out; rw [h2] at this; exact this.symm
          have e3 : N3 = 0 := by have := HNN3.out; rw [h3] at this; exact this.symm
          cases h4
          subst e1 e3
          have h1' : ¬ fe1 = 0 := h1
          clear h1 h2 h3
          go_wp2
          go_ret
          refine ⟨ret_bool ?_, HB9.out.alloc HB9.out.size _⟩
          simp
        · obtain ⟨rfl, AL2⟩ : fe1 = 0 ∧ ((fe2 ≠ 0 ∧ N2 = 0 ∧ N3 = 0 ∧ fd3 = fd2 + docN T1 ∧ fl3 = fl2 + en ∧ fe3 = fe2) ∨ (fe2 = 0 ∧ fe3 = 0 ∧ T3 = T1 ++ T2.map (Tk.by en))) := by
            rcases AL with ⟨h1, h2, h3, h4, h5⟩ | ⟨h1, h2, h3, h4⟩
            · refine ⟨h1, .inl ⟨h2, ?_, ?_, ?_⟩⟩
              · have := HNN2.out; rw [h3] at this; exact this.symm
              · have := HNN3.out; rw [h4] at this; exact this.symm
              · cases h5; exact ⟨rfl, rfl, rfl⟩
            · exact ⟨h1, .inr ⟨h2, h3, h4⟩⟩
          have HAL := hide2 AL2
          clear AL AL2
          go_wp2_with fail
          have b10 : Below w9.heap.size w9 (w9.alloc (.cells #[.int .i64 fd3, .int .i64 fl3, .int .i64 fe3] 32)) := (Below.refl _ w9).alloc (Nat.le_refl _) _
          have k3 := Go.heap_alloc_new w9 (.cells #[.int .i64 fd3, .int .i64 fl3, .int .i64 fe3] 32)
          obtain ⟨w10, hw10⟩ : ∃ W, w9.alloc (.cells #[.int .i64 fd3, .int .i64 fl3, .int .i64 fe3] 32) = W := ⟨_, rfl⟩
          rw [hw10] at b10 k3 ⊢
          have HRA10 : Hid (w10.ownsRow w2.heap.size 39 5 (.slice ava N1 ca) N1 (T1.flatMap Tk.row)) := own_blk HRA.out (fun k hk => b10.block k (HRA.out.lt k hk).2)
          have HRB10 : Hid (w10.ownsRow w4.heap.size 39 5 (.slice avb N2 cb) N2 (T2.flatMap Tk.row)) := own_blk HRB.out (fun k hk => b10.block k (HRB.out.lt k hk).2)
          have HRC10 : Hid (w10.ownsRow w8.heap.size 39 5 (.slice avc N3 cc) N3 (T3.flatMap Tk.row)) := own_blk HRC.out (fun k hk => b10.block k (HRC.out.lt k hk).2)
          have HB10 := hide2 (HB9.out.trans (b10.mono HB9.out.size))
          have P20 := hide2 ((b10.cell (p := ⟨w5.heap.size, 0, none⟩) hq2).trans p20)
          have P21 := hide2 ((b10.cell (p := ⟨w5.heap.size, 1, none⟩) hq2).trans p21)
          have P22 := hide2 ((b10.cell (p := ⟨w5.heap.size, 2, none⟩) hq2).trans p22)
          have P30 := hide2 (cell_of k3 0 _ rfl)
          have P31 := hide2 (cell_of k3 1 _ rfl)
          have P32 := hide2 (cell_of k3 2 _ rfl)
          clear hw10 b10 k3 p10 p11 p12 p20 p21 p22 HRA HRB HRC HB9
          have hN1i : (N1 : Int) ≤ 65537 := by omega
          go_loopw [11, 15] (fun u t wr => ∃ i : Nat, t = .int .i64 i ∧ u = .int .i64 (docN (T1.take i) : Int) ∧ i ≤ N1 ∧ wr = w10) (fun _ t _ => N1 - (intOf t).toNat)
          case atStart => exact ⟨0, rfl, by simp [docN], by omega, rfl⟩
          case round =>
            obtain ⟨j, rfl, rfl, hj, rfl⟩ := hrel
            have j0 : (0 : Int) ≤ j := by omega
            obtain ⟨dn, hdn⟩ : ∃ dn, docN (T1.take j) = dn := ⟨_, rfl⟩
            have hdnl : (dn : Int) ≤ 65537 := by
              have := docN_le (T1.take j)
              rw [List.length_take] at this
              omega
            have dn0 : (0 : Int) ≤ dn := by omega
            rw [hdn]
            have HDN := hide2 hdn
            clear hdn
            by_cases hjn : j < N1
            · have hj2 : (j : Int) < N1 := by omega
              obtain ⟨ga, rfl⟩ := hava (by omega)
              rcases htj : T1[j]? with _ | t
              · have := List.getElem?_eq_none_iff.1 htj; have := HNN1.out; omega
              have e0 := row_cell HRA10.out j _ htj 0 _ (by omega) rfl
              have hsn : docN (T1.take (j + 1)) = dn + if t.kind = 1 then 1 else 0 := by
                rw [List.take_add_one, htj, Option.toList_some, docN_snoc, HDN.out]
              rw [Nat.add_zero] at e0
              obtain ⟨kd, ln, cl, tx, q⟩ := t
              dsimp only at e0 hsn
              have HSN := hide2 hsn
              clear hsn htj
              by_cases hk : kd = 1
              · subst hk
                go_wp2_with fail
                go_roundw
                case rel => exact ⟨j + 1, by go_num, by have h1 := HSN.out; rw [if_pos rfl] at h1; simp; omega, by omega, trivial⟩
                case measure => simp [intOf]; omega
              · go_wp2_with fail
                go_roundw
                case rel => exact ⟨j + 1, by go_num, by have h1 := HSN.out; rw [if_neg hk] at h1; simp; omega, by omega, trivial⟩
                case measure => simp [intOf]; omega
            · have hj2 : ¬ (j : Int) < N1 := by omega
              have hD : docN T1 = dn := by
                have h1 := HDN.out
                rw [List.take_of_length_le (by rw [HNN1.out]; omega)] at h1
                exact h1
              have p20 := P20.out
              have p21 := P21.out
              have p22 := P22.out
              have p30 := P30.out
              have p31 := P31.out
              have p32 := P32.out
              rcases HAL.out with ⟨h1, h2, h3, h4, h5, h6⟩ | ⟨h1, h2, h3⟩
              · rw [hD] at h4
                have hfit := flt_fit l2 (by rw [HN2.out]; omega)
                rw [HF2.out] at hfit
                obtain ⟨f1, f2, f3, f4⟩ := hfit
                dsimp only at f1 f2 f3 f4
                subst h2 h3 h4 h5 h6
                clear HAL
                go_wp2
                go_ret
                refine ⟨ret_bool ?_, HB10.out⟩
                simp
              · subst h1 h2
                have hN3 : N3 = N1 + N2 := by
                  have := HNN3.out
                  rw [h3, List.length_append, List.length_map, HNN1.out, HNN2.out] at this
                  exact this.symm
                subst hN3
                have HT := hide2 h3
                clear h3 HAL
                have hN2i : (N2 : Int) ≤ 65537 := by omega
                go_wp2_with fail
                have HRA' : Hid (wr.ownsRow w2.heap.size 39 5 (.slice ava N1 ca) N1 (T1.flatMap Tk.row)) := HRA10
                clear p20 p21 p22 p30 p31 p32 P20 P21 P22 P30 P31 P32
                obtain ⟨w10, hw10⟩ : ∃ W, W = wr := ⟨_, rfl⟩
                rw [← hw10] at HRA' HRB10 HRC10 HB10 ⊢
                clear HRA10 hw10
                go_loopw [16] (fun t wr => ∃ i : Nat, t = .int .i64 i ∧ i ≤ N1 ∧ ∃ q, wr = w10.drewN q) (fun t _ => N1 - (intOf t).toNat)
                case atStart => exact ⟨0, rfl, by omega, 0, rfl⟩
                case round =>
                  obtain ⟨k, rfl, hk, q9, hwr⟩ := hrel
                  have k0 : (0 : Int) ≤ k := by omega
                  have HWR := hide2 hwr
                  have hcell : ∀ x, wr.cell? x = w10.cell? x := fun x => by rw [HWR.out]; simp
                  have HCL := hide2 hcell
                  clear hwr hcell
                  by_cases hkn : k < N1
                  · have hk2 : (k : Int) < N1 := by omega
                    have hk3 : (k : Int) < (N1 : Int) + N2 := by omega
                    obtain ⟨ga, rfl⟩ := hava (by omega)
                    obtain ⟨gc, rfl⟩ := havc (by omega)
                    rcases hti : T1[k]? with _ | t
                    · have := List.getElem?_eq_none_iff.1 hti; have := HNN1.out; omega
                    have htc : T3[k]? = some t := by
                      rw [HT.out, List.getElem?_append_left (by rw [HNN1.out]; exact hkn)]
                      exact hti
                    obtain ⟨kd, ln, cl, tx, q⟩ := t
                    have a0 := (HCL.out _).trans (row_cell HRA'.out k _ hti 0 _ (by omega) rfl)
                    have a1 := (HCL.out _).trans (row_cell HRA'.out k _ hti 1 _ (by omega) rfl)
                    have a2 := (HCL.out _).trans (row_cell HRA'.out k _ hti 2 _ (by omega) rfl)
                    have a3 := (HCL.out _).trans (row_cell HRA'.out k _ hti 3 _ (by omega) rfl)
                    have a4 := (HCL.out _).trans (row_cell HRA'.out k _ hti 4 _ (by omega) rfl)
                    have e0 := (HCL.out _).trans (row_cell HRC10.out k _ htc 0 _ (by omega) rfl)
                    have e1 := (HCL.out _).trans (row_cell HRC10.out k _ htc 1 _ (by omega) rfl)
                    have e2 := (HCL.out _).trans (row_cell HRC10.out k _ htc 2 _ (by omega) rfl)
                    have e3 := (HCL.out _).trans (row_cell HRC10.out k _ htc 3 _ (by omega) rfl)
                    have e4 := (HCL.out _).trans (row_cell HRC10.out k _ htc 4 _ (by omega) rfl)
                    rw [Nat.add_zero] at a0 e0
                    dsimp only at a0 a1 a2 a3 a4 e0 e1 e2 e3 e4
                    clear hti htc
                    go_wp2_with fail
                    go_quiet (fail)
                    go_wp2_with fail
                    go_roundw
                    case rel => exact ⟨k + 1, by go_num, by omega, q9 + nq, by rw [HWR.out]; simp⟩
                    case measure => simp [intOf]; omega
                  · have hk2 : ¬ (k : Int) < N1 := by omega
                    have HRB3 : Hid (wr.ownsRow w4.heap.size 39 5 (.slice avb N2 cb) N2 (T2.flatMap Tk.row)) := own_blk HRB10.out (fun k hk => by rw [HWR.out]; simp)
                    have HRC3 : Hid (wr.ownsRow w8.heap.size 39 5 (.slice avc (N1 + N2) cc) (N1 + N2) (T3.flatMap Tk.row)) := own_blk HRC10.out (fun k hk => by rw [HWR.out]; simp)
                    have HB3 : Hid (Below w.heap.size w wr) := by
                      have := below_drewN HB10.out q9
                      rw [← HWR.out] at this
                      exact this
                    clear HWR HCL HRA' HRB10 HRC10 HB10
                    obtain ⟨w11, hw11⟩ : ∃ W, W = wr := ⟨_, rfl⟩
                    rw [← hw11] at HRB3 HRC3 HB3 ⊢
                    clear hw11
                    have HBR := hide2 (Below.refl w11.heap.size w11)
                    go_wp2_with fail
                    go_loopw [17] (fun t wr => ∃ i : Nat, t = .int .i64 i ∧ i ≤ N2 ∧ Below w11.heap.size w11 wr) (fun t _ => N2 - (intOf t).toNat)
                    case atStart => exact ⟨0, rfl, by omega, HBR.out⟩
                    case round =>
                      obtain ⟨m, rfl, hm, hbw⟩ := hrel
                      have m0 : (0 : Int) ≤ m := by omega
                      have HBW := hide2 hbw
                      clear hbw
                      by_cases hmn : m < N2
                      · have hm2 : (m : Int) < N2 := by omega
                        obtain ⟨gb, rfl⟩ := havb (by omega)
                        obtain ⟨gc, rfl⟩ := havc (by omega)
                        rcases hti : T2[m]? with _ | t
                        · have := List.getElem?_eq_none_iff.1 hti; have := HNN2.out; omega
                        have hfit := tok_fit l2 (by rw [HN2.out]; omega) t (by rw [HT2.out]; exact List.mem_of_getElem? hti)
                        have htc : T3[N1 + m]? = some (t.by en) := by
                          rw [HT.out, List.getElem?_append_right (by rw [HNN1.out]; omega), HNN1.out, Nat.add_sub_cancel_left, List.getElem?_map, hti]
                          rfl
                        obtain ⟨kd, ln, cl, tx, q⟩ := t
                        obtain ⟨fit0, fit1⟩ := hfit
                        dsimp only at fit0 fit1
                        have HRB4 : wr.ownsRow w4.heap.size 39 5 (.slice (some ⟨gb, 0, none⟩) N2 cb) N2 (T2.flatMap Tk.row) := own_blk HRB3.out (fun k hk => HBW.out.block k (HRB3.out.lt k hk).2)
                        have HRC4 : wr.ownsRow w8.heap.size 39 5 (.slice (some ⟨gc, 0, none⟩) (N1 + N2) cc) (N1 + N2) (T3.flatMap Tk.row) := own_blk HRC3.out (fun k hk => HBW.out.block k (HRC3.out.lt k hk).2)
                        have lb : gb < wr.heap.size := (HRB4.lt gb rfl).2
                        have lc : gc < wr.heap.size := (HRC4.lt gc rfl).2
                        have a0 := row_cell HRB4 m _ hti 0 _ (by omega) rfl
                        have a1 := row_cell HRB4 m _ hti 1 _ (by omega) rfl
                        have a2 := row_cell HRB4 m _ hti 2 _ (by omega) rfl
                        have a3 := row_cell HRB4 m _ hti 3 _ (by omega) rfl
                        have a4 := row_cell HRB4 m _ hti 4 _ (by omega) rfl
                        have e0 := row_cell HRC4 (N1 + m) _ htc 0 _ (by omega) rfl
                        have e1 := row_cell HRC4 (N1 + m) _ htc 1 _ (by omega) rfl
                        have e2 := row_cell HRC4 (N1 + m) _ htc 2 _ (by omega) rfl
                        have e3 := row_cell HRC4 (N1 + m) _ htc 3 _ (by omega) rfl
                        have e4 := row_cell HRC4 (N1 + m) _ htc 4 _ (by omega) rfl
                        rw [Nat.add_zero] at a0 e0
                        dsimp only [Tk.by] at a0 a1 a2 a3 a4 e0 e1 e2 e3 e4
                        clear hti htc HRB4 HRC4
                        go_wp2_with fail
                        have b12 : Below wr.heap.size wr (wr.alloc (.cells #[.int .i64 kd, .int .i64 (ln + en), .int .i64 cl, .string ⟨tx.toArray⟩, .bool q] 39)) := (Below.refl _ wr).alloc (Nat.le_refl _) _
                        have k12 := Go.heap_alloc_new wr (.cells #[.int .i64 kd, .int .i64 (ln + en), .int .i64 cl, .string ⟨tx.toArray⟩, .bool q] 39)
                        obtain ⟨w12, hw12⟩ : ∃ W, wr.alloc (.cells #[.int .i64 kd, .int .i64 (ln + en), .int .i64 cl, .string ⟨tx.toArray⟩, .bool q] 39) = W := ⟨_, rfl⟩
                        rw [hw12] at b12 k12 ⊢
                        have g0 := (b12.cell (p := ⟨gc, (N1 + m) * 5, none⟩) lc).trans e0
                        have g1 := (b12.cell (p := ⟨gc, (N1 + m) * 5 + 1, none⟩) lc).trans e1
                        have g2 := (b12.cell (p := ⟨gc, (N1 + m) * 5 + 2, none⟩) lc).trans e2
                        have g3 := (b12.cell (p := ⟨gc, (N1 + m) * 5 + 3, none⟩) lc).trans e3
                        have g4 := (b12.cell (p := ⟨gc, (N1 + m) * 5 + 4, none⟩) lc).trans e4
                        have f0 : w12.cell? ⟨wr.heap.size, 0, none⟩ = some (.int .i64 kd) := cell_of k12 0 _ rfl
                        have f1 : w12.cell? ⟨wr.heap.size, 1, none⟩ = some (.int .i64 (ln + en)) := cell_of k12 1 _ rfl
                        have f2 : w12.cell? ⟨wr.heap.size, 2, none⟩ = some (.int .i64 cl) := cell_of k12 2 _ rfl
                        have f3 : w12.cell? ⟨wr.heap.size, 3, none⟩ = some (.string ⟨tx.toArray⟩) := cell_of k12 3 _ rfl
                        have f4 : w12.cell? ⟨wr.heap.size, 4, none⟩ = some (.bool q) := cell_of k12 4 _ rfl
                        have HB12 := hide2 (HBW.out.trans (b12.mono HBW.out.size))
                        have hm3 : (N1 : Int) + m < (N1 : Int) + N2 := by omega
                        have hm4 : (0 : Int) ≤ (N1 : Int) + m := by omega
                        have hm5 : ((N1 : Int) + m).toNat = N1 + m := by omega
                        clear e0 e1 e2 e3 e4 a0 a1 a2 a3 a4 b12 k12 hw12 HBW lb lc
                        go_quiet (fail)
                        go_wp2_with fail
                        go_roundw
                        case rel => exact ⟨m + 1, by go_num, by omega, below_drewN HB12.out nq⟩
                        case measure => simp [intOf]; omega
                      · have hm2 : ¬ (m : Int) < N2 := by omega
                        go_wp2
                        go_ret
                        refine ⟨ret_bool ?_, HB3.out.trans (HBW.out.mono HB3.out.size)⟩
                        simp
end Go.Proofs.YtjmgngocpokpgaaDoor
