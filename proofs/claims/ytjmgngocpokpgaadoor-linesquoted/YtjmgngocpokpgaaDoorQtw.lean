/-
  LinesQuoted.
-/
import Derived.Test.YtjmgngocpokpgaaDoorPl17
import Derived.Test.YtjmgngocpokpgaaDoorQte
import Derived.Test.YtjmgngocpokpgaaDoorOw
import Derived.Lib.AppendStr
import Derived.Laws.IdiomStrings
namespace Go.Proofs.YtjmgngocpokpgaaDoor
open Go.RowKit
set_option linter.unusedVariables false
set_option linter.unusedSimpArgs false
theorem strCells_zL (l : List UInt8) : Lib.strCells ⟨l.toArray⟩ = vals (zL l) := by
  unfold Lib.strCells vals zL
  simp
theorem zL_blank (k : Nat) : zL (List.replicate (k + 1) 32) = zL (List.replicate k 32) ++ [32] := by
  rw [List.replicate_succ', zL_append]
  rfl
/-- What is told of three texts. -/
theorem told_of (L : List UInt8) (ts : List Tk) (hl : L.length ≤ 65536) (hs : strF L = 0) (hne : L ≠ []) (hr : readF L 1 = (ts, 0)) : toksOf (scnF L) = ts ∧ fltOf (scnF L) = (0, 0, 0) := by
  have h : scnF L = ts.map okT := by
    unfold scnF
    rw [if_neg (by omega)]
    exact one_line L hs hne ts hr
  have hf : (ts.map okT).find? (fun x => decide (x.e ≠ 0)) = none := by
    rw [List.find?_eq_none]
    intro x hx
    obtain ⟨t, _, rfl⟩ := List.mem_map.1 hx
    simp [okT]
  rw [h]
  unfold toksOf fltOf
  rw [hf]
  refine ⟨?_, rfl⟩
  dsimp only
  rw [List.map_map]
  exact List.map_id' ts
theorem str_of_read {L : List UInt8} {ts : List Tk} (hne : ts ≠ []) (h : readF L 1 = (ts, 0)) : strF L = 0 := by
  unfold readF at h
  split at h
  · rename_i h1
    exact absurd (congrArg Prod.snd h) h1
  · rename_i h1
    simpa using h1
theorem told_qt (b : Nat) (s : List UInt8) (hb : b ≤ 200) (hs : s.length ≤ 16000) : toksOf (scnF (List.replicate b 32 ++ qtL s)) = [⟨4, 1, b, s, true⟩] ∧ fltOf (scnF (List.replicate b 32 ++ qtL s)) = (0, 0, 0) := by
  have hr := read_qt b s
  have := qtL_len s
  exact told_of _ _ (by simp; omega) (str_of_read (by simp) hr) (by simp [qtL]) hr
theorem told_kqt (b : Nat) (s : List UInt8) (hb : b ≤ 200) (hs : s.length ≤ 16000) : toksOf (scnF ([107, 101, 121, 58, 32] ++ (List.replicate b 32 ++ qtL s))) = [⟨3, 1, 0, [107, 101, 121], false⟩, ⟨4, 1, ((5 + b : Nat) : Int), s, true⟩] ∧ fltOf (scnF ([107, 101, 121, 58, 32] ++ (List.replicate b 32 ++ qtL s))) = (0, 0, 0) := by
  have hr := read_kqt b s
  have := qtL_len s
  exact told_of _ _ (by simp; omega) (str_of_read (by simp) hr) (by simp) hr
theorem told_pl (s : List UInt8) (hs : s.length ≤ 16000) (h : plB s = true) : toksOf (scnF s) = [⟨4, 1, 0, s, false⟩] ∧ fltOf (scnF s) = (0, 0, 0) := by
  obtain ⟨h1, h2, h3⟩ := of_decide_eq_true h
  exact told_of _ _ (by omega) h2 h1 (plain_read s h2 h1 h3)
theorem oct_key : Octets [107, 101, 121, 58, 32] := fun i => by
  match i with
  | 0 => decide
  | 1 => decide
  | 2 => decide
  | 3 => decide
  | 4 => decide
  | i + 5 => simp
theorem wpList_append_full {P : Program} (w : World) {ops : Array Oper} {rest : List Oper} {o : Oper} {a : Act} {Q : Exit → Act → World → Prop} (hgd : o.guard = none) (s x : Operand) (t : TypeId)
    (hop : o.op = .call { callee := .builtin .append, args := #[s, x], argTypes := #[t, t] })
    (i : TypeInfo) (ht : P.underlying t = some (.slice 5)) (hi : P.info? 5 = some i) (hz : i.zero = some (.int .u8 0)) (hsize : i.size = 1) (hby : i.bytes = 1)
    (ad0 : Addr) (n : Nat) (zs : List Int) (hs : a.eval s = .slice (some ad0) n n) (hzl : zs.length = n) (hZ : Has w (some ad0) zs) (hzo : Octets zs) (ad : Addr) (m c : Nat) (ps : List Int) (hx : a.eval x = .slice (some ad) m c) (hl : ps.length = m) (hp : Has w (some ad) ps) (ho : Octets ps) (hm : 0 < m)
    (hsmall : n + m ≤ 140737488355328)
    (h : ∀ v' w', Buf w' w.heap.size v' (zs ++ ps) → w.grownBy w' none → wpList P ops Q rest (a.put o.dst v') w') : wpList P ops Q (o :: rest) a w := by
  have hmax : (140737488355328 : Nat) ≤ maxLen := by decide
  refine wpList_plain hgd fun _ hK => ?_
  have hof : ∀ {b : Addr} {qs : List Int}, Has w (some b) qs → ∀ j u, (vals qs)[j]? = some u → w.cell? (b.add j) = some u := fun {b qs} hh j u hj => by
    rcases hh with ⟨e, _⟩ | ⟨y, e, hc⟩
    · cases e
    · cases e
      obtain ⟨hj', rfl⟩ := vals_at qs j u hj
      exact hc j hj'
  obtain ⟨v', w', hr, r2, r3⟩ := run_append_arg_grows (P := P) w t o.type 5 i (.int .u8 0) 1 1 ht hi hz hsize hby rfl (by decide) ad0 n n (vals zs) (by rw [vals_length]; omega) (hof hZ) ad m c (vals ps) (by rw [vals_length]; omega) (hof hp) (by omega) (by omega) (by omega)
  rw [← vals_append] at r2
  unfold Oper.wp execOp
  simp only [hop, resolve, invoke, builtin, Sem.run_bind, Sem.run_pure, Result.andThen_ok, List.map_toArray, List.map_cons, List.map_nil, hs, hx, hr]
  exact hK _ _ (h v' w' (Buf.of_own (hzo.append ho) r2) r3)
theorem has_key (w : World) : Has (w.alloc (.cells #[.int .u8 107, .int .u8 101, .int .u8 121, .int .u8 58, .int .u8 32] 5 (5, 6))) (some ⟨w.heap.size, 0, none⟩) [107, 101, 121, 58, 32] := Has.of_block (zs := [107, 101, 121, 58, 32]) (Go.heap_alloc_new w _)
theorem zL_key (l : List UInt8) : [107, 101, 121, 58, 32] ++ zL l = zL ([107, 101, 121, 58, 32] ++ l) := rfl
set_option maxRecDepth 100000 in
set_option maxHeartbeats 8000000 in
theorem quoted_any (s : List UInt8) (b : Int) (w : World) (hm : HasM w) (hs : s.length ≤ 140737488355328) (hb0 : -9223372036854775808 ≤ b) (hb1 : b ≤ 9223372036854775807) :
    Calls Tryd.prog 6 #[.string ⟨s.toArray⟩, .int .i64 b] w fun e w' => e = .returned (.bool true) ∧ Below w.heap.size w w' := by
  obtain ⟨i5, hi5, hz50, hz51, hz52⟩ := info_parts Tryd.info5
  have hw0 := hm.lt
  obtain ⟨S, hS⟩ : ∃ S, s.length = S := ⟨_, rfl⟩
  have hsz : (ByteArray.mk s.toArray).size = S := hS
  go_enter Tryd.func6, Tryd.ntmps6
  go_wp2_with fail
  refine (awake_any w hm).mono ?_
  rintro e w1 ⟨rfl, b1⟩
  have HM1 := hide2 (hm.below b1 hw0)
  have HB1 := hide2 b1
  clear b1 hm
  by_cases h0 : b < 0
  · go_wp2
    go_ret
    exact ⟨ret_bool rfl, HB1.out⟩
  by_cases h2 : 200 < b
  · have h0' : ¬ b < 0 := h0
    go_wp2
    go_ret
    exact ⟨ret_bool rfl, HB1.out⟩
  by_cases h3 : 16000 < S
  · have h3' : (16000 : Int) < S := by omega
    go_wp2
    go_ret
    exact ⟨ret_bool rfl, HB1.out⟩
  have h3' : ¬ (16000 : Int) < S := by omega
  obtain ⟨B, rfl⟩ : ∃ B : Nat, b = B := ⟨b.toNat, by omega⟩
  have hB : B ≤ 200 := by omega
  go_wp2_with fail
  have HR0 := hide2 (World.ownsRow_nil w1 w1.heap.size 5 1)
  go_loopw [5, 6] (fun v t wr => ∃ k : Nat, t = .int .i64 k ∧ k ≤ B ∧ wr.ownsRow w1.heap.size 5 1 v k (vals (zL (List.replicate k 32))) ∧ Below w1.heap.size w1 wr) (fun _ t _ => B - (intOf t).toNat)
  case atStart => exact ⟨0, rfl, by omega, HR0.out, Below.refl _ _⟩
  case round =>
    obtain ⟨k, rfl, hk, hown, hbel⟩ := hrel
    have HO := hide2 hown
    have HB := hide2 hbel
    clear hown hbel
    have k0 : (0 : Int) ≤ k := by omega
    by_cases hkb : k < B
    · have hk2 : (k : Int) < B := by omega
      go_wp2_with (at_builtin; refine wpList_append_form _ rfl (.tmp 31) (.tmp 32) 22 rfl w1.heap.size 5 i5 (.int .u8 0) 1 1 Tryd.underlying22 hi5 hz50 hz51 hz52 rfl (by decide) _ k (vals (zL (List.replicate k 32))) rfl (HO.out.alloc _) ⟨wr.heap.size, 0, none⟩ 1 1 (vals [32]) rfl rfl (World.news_of_block (heap_alloc_new wr _)) (vals_one _) (by omega) (by unfold maxLen; omega) (by omega) (by have := HB.out.size; simp; omega) ?_; intro g3 c3 w3 hown3 hgrow3; obtain ⟨O3, B3⟩ := app_more (new := [32]) rfl (by simp) rfl HO.out HB.out (Nat.le_refl _) hown3 hgrow3; clear hown3 hgrow3)
      go_roundw
      case rel => exact ⟨k + 1, by go_num, by omega, by have := O3.out; rw [List.replicate_succ']; exact this, B3.out⟩
      case measure => simp [intOf]; omega
    · have hk2 : ¬ (k : Int) < B := by omega
      obtain rfl : k = B := by omega
      have hq := fun w => quote_any s w (by omega)
      go_wp2_with fail
      refine (hq wr).mono ?_
      rintro e w3 ⟨rfl, b3⟩
      obtain ⟨Q, hQ⟩ : ∃ Q, (qtL s).length = Q := ⟨_, rfl⟩
      have hQl : Q ≤ 64002 := by have := qtL_len s; omega
      have hQs : (ByteArray.mk (qtL s).toArray).size = Q := hQ
      have HO3 : Hid (w3.ownsRow w1.heap.size 5 1 u5 k (vals (zL (List.replicate k 32)))) := own_blk HO.out (fun j hj => b3.block j (HO.out.lt j hj).2)
      have HB3 := hide2 (HB.out.trans (b3.mono HB.out.size))
      have hs3 : w1.heap.size ≤ w3.heap.size := HB3.out.size
      clear b3 HO HB HR0 hq
      go_wp2_with (at_builtin; refine Lib.wpList_append_own_string _ rfl (.tmp 34) (.tmp 36) 22 9 rfl w1.heap.size 5 i5 Tryd.underlying22 Tryd.underlying9 hi5 hz50 hz51 hz52 u5 k (vals (zL (List.replicate k 32))) rfl HO3.out ⟨(qtL s).toArray⟩ rfl (by rw [hQs]; unfold maxLen; omega) (by rw [hQs]; omega) hs3 ?_; intro v4 w4 hown4 hgrow4 _; have HOW4 := hide2 hown4; have HGR4 := hide2 hgrow4; clear hown4 hgrow4)
      obtain ⟨L, hL⟩ : ∃ L, List.replicate k 32 ++ qtL s = L := ⟨_, rfl⟩
      have hLl : L.length = k + Q := by rw [← hL, List.length_append, hQ]; simp
      have hbuf : Buf w4 w1.heap.size v4 (zL L) := by
        have := HOW4.out
        rw [strCells_zL, ← vals_append, ← zL_append, hL] at this
        exact Buf.of_own (oct_zL L) this
      have b4 : Below w1.heap.size w1 w4 := HB3.out.grown HGR4.out hs3 (fun j hj => (HO3.out.lt j hj).1)
      have HM4 := hide2 (HM1.out.below b4 HM1.out.lt)
      have HB4 := hide2 (HB1.out.trans (b4.mono HB1.out.size))
      obtain ⟨ao, ci, hv4, hbare, hHi, _, hci⟩ := hbuf.form
      rw [zL_length, hLl] at hv4
      subst hv4
      obtain ⟨tq1, tq2⟩ := told_qt k s hB (by omega)
      rw [hL] at tq1 tq2
      have hH := hide2 hHi
      have HBR := hide2 hbare
      have HLl := hide2 hLl
      have HL := hide2 hL
      clear hbuf b4 hHi hbare HOW4 HGR4 HO3 HB3 hLl hL
      have hn4 : k + Q ≤ 64202 := by omega
      refine (scan_call ao (k + Q) ci L w4 HLl.out hH.out (by unfold maxLen; omega) HM4.out _ 0 0 0 1 rfl tq1 tq2).mono ?_
      rintro e w5 ⟨ava, ca, rfl, hra, hava, b5⟩
      have HM5 := hide2 (HM4.out.below b5 HM4.out.lt)
      have HB5 := hide2 (HB4.out.trans (b5.mono HB4.out.size))
      have hs5 := b5.size
      have hH5 := hide2 (hH.out.of_below b5)
      obtain ⟨ga, rfl⟩ := hava (by omega)
      have HRA := hide2 hra
      clear b5 hra hava HM4 HB4 hH tq1 tq2
      obtain ⟨x, rfl⟩ : ∃ x, ao = some x := by
        rcases hH5.out with ⟨_, h⟩ | ⟨x, rfl, _⟩
        · have : (zL L).length = 0 := by rw [h]; rfl
          rw [zL_length, HLl.out] at this
          have : 2 ≤ Q := by rw [← hQ]; simp [qtL]
          omega
        · exact ⟨x, rfl⟩
      have hQ2 : 0 < k + Q := by have : 2 ≤ Q := by rw [← hQ]; simp [qtL]
                                 omega
      obtain ⟨o5, ho5⟩ : ∃ o : Obj, o = .cells #[.int .i64 0, .int .i64 0, .int .i64 0] 32 := ⟨_, rfl⟩
      have b5a : Below w5.heap.size w5 (w5.alloc o5) := (Below.refl _ w5).alloc (Nat.le_refl _) _
      have HZ : Hid (Has ((w5.alloc o5).alloc (.cells #[.int .u8 107, .int .u8 101, .int .u8 121, .int .u8 58, .int .u8 32] 5 (5, 6))) (some ⟨w5.heap.size + 1, 0, none⟩) [107, 101, 121, 58, 32]) := by
        have := has_key (w5.alloc o5)
        rwa [World.size_alloc] at this
      have HA5 : Hid (Has ((w5.alloc o5).alloc (.cells #[.int .u8 107, .int .u8 101, .int .u8 121, .int .u8 58, .int .u8 32] 5 (5, 6))) (some x) (zL L)) := hH5.out.of_below (b5a.alloc (by simp) _)
      have kc := Lib.run_convert_bytes_const (P := Tryd.prog) (w5.alloc o5) 22 5 #[.int .u8 107, .int .u8 101, .int .u8 121, .int .u8 58, .int .u8 32] 5 5 Tryd.underlying22 Tryd.underlying5
      rw [World.size_alloc] at kc
      have HB5a := hide2 b5a
      clear b5a
      subst ho5
      go_wp2_with (at_builtin; refine wpList_append_full _ rfl (.tmp 45) (.tmp 46) 22 rfl i5 Tryd.underlying22 hi5 hz50 hz51 hz52 ⟨w5.heap.size + 1, 0, none⟩ 5 [107, 101, 121, 58, 32] rfl rfl HZ.out oct_key x (k + Q) ci (zL L) rfl (by rw [zL_length]; exact HLl.out) HA5.out (oct_zL L) hQ2 (by omega) ?_; intro v6 w6 hbuf6 hgr6; have HBF6 := hide2 hbuf6; have HG6 := hide2 hgr6; clear hbuf6 hgr6)
      have b6 : Below w5.heap.size w5 w6 := (HB5a.out.alloc (by simp) _).grown HG6.out (by simp; omega) (fun k hk => by cases hk)
      have k6 : w6.heap[w5.heap.size]? = some (.cells #[.int .i64 0, .int .i64 0, .int .i64 0] 32 (0, 0)) := (HG6.out.block w5.heap.size (by simp; omega) (fun e => by cases e)).trans ((Go.heap_alloc_old _ _ (by simp)).trans (Go.heap_alloc_new w5 _))
      have hs6 : w5.heap.size + 1 ≤ w6.heap.size := by have := HG6.out.size; simp at this; omega
      have HRA6 : Hid (w6.ownsRow w4.heap.size 39 5 (.slice (some ⟨ga, 0, none⟩) 1 ca) 1 ([⟨4, 1, k, s, true⟩].flatMap Tk.row)) := own_blk HRA.out (fun j hj => b6.block j (HRA.out.lt j hj).2)
      have HM6 := hide2 (HM5.out.below b6 HM5.out.lt)
      have HB6 := hide2 (HB5.out.trans (b6.mono HB5.out.size))
      have hbuf := HBF6.out
      rw [zL_key] at hbuf
      obtain ⟨ao2, ci2, hv6, _, hHi2, _, hci2⟩ := hbuf.form
      have hLl2 : ([107, 101, 121, 58, 32] ++ L).length = 5 + (k + Q) := by rw [List.length_append, HLl.out]; rfl
      rw [zL_length, hLl2] at hv6
      subst hv6
      obtain ⟨tq1, tq2⟩ := told_kqt k s hB (by omega)
      rw [HL.out] at tq1 tq2
      have K6 := hide2 k6
      clear k6 hbuf HBF6 HG6 b6 HRA HM5 HB5 HB5a HZ HA5 kc hH5
      refine (scan_call ao2 (5 + (k + Q)) ci2 ([107, 101, 121, 58, 32] ++ L) w6 hLl2 hHi2 (by unfold maxLen; omega) HM6.out _ 0 0 0 2 rfl tq1 tq2).mono ?_
      rintro e w7 ⟨avb, cb, rfl, hrb, havb, b7⟩
      obtain ⟨gb, rfl⟩ := havb (by omega)
      have HM7 := hide2 (HM6.out.below b7 HM6.out.lt)
      have HB7 := hide2 (HB6.out.trans (b7.mono HB6.out.size))
      have hs7 := b7.size
      have HRA7 : Hid (w7.ownsRow w4.heap.size 39 5 (.slice (some ⟨ga, 0, none⟩) 1 ca) 1 ([⟨4, 1, k, s, true⟩].flatMap Tk.row)) := own_blk HRA6.out (fun j hj => b7.block j (HRA6.out.lt j hj).2)
      have HRB7 := hide2 hrb
      have k7 := (b7.block w5.heap.size (by omega)).trans K6.out
      have p12 : w7.cell? ⟨w5.heap.size, 2, none⟩ = some (.int .i64 0) := cell_of k7 2 _ rfl
      have hq5 : w5.heap.size < w7.heap.size := by omega
      clear hrb havb b7 tq1 tq2 HM6 HB6 HRA6 K6 k7 hLl2 hHi2
      go_wp2_with fail
      have b7a : Below w7.heap.size w7 (w7.alloc (.cells #[.int .i64 0, .int .i64 0, .int .i64 0] 32)) := (Below.refl _ w7).alloc (Nat.le_refl _) _
      obtain ⟨w8, hw8⟩ : ∃ W, w7.alloc (.cells #[.int .i64 0, .int .i64 0, .int .i64 0] 32) = W := ⟨_, rfl⟩
      rw [hw8] at b7a ⊢
      have HM8 := hide2 (HM7.out.below b7a HM7.out.lt)
      have HB8 := hide2 (HB7.out.trans (b7a.mono HB7.out.size))
      have HRA8 : Hid (w8.ownsRow w4.heap.size 39 5 (.slice (some ⟨ga, 0, none⟩) 1 ca) 1 ([⟨4, 1, k, s, true⟩].flatMap Tk.row)) := own_blk HRA7.out (fun j hj => b7a.block j (HRA7.out.lt j hj).2)
      have HRB8 : Hid (w8.ownsRow w6.heap.size 39 5 (.slice (some ⟨gb, 0, none⟩) 2 cb) 2 ([⟨3, 1, 0, [107, 101, 121], false⟩, ⟨4, 1, ((5 + k : Nat) : Int), s, true⟩].flatMap Tk.row)) := own_blk HRB7.out (fun j hj => b7a.block j (HRB7.out.lt j hj).2)
      clear hw8 b7a HM7 HB7 HRA7 HRB7 p12 hq5
      obtain ⟨m, hm8⟩ := HM8.out
      refine (plain17 s m w8 (by omega) hm8).mono ?_
      rintro e w9 ⟨rfl, q, hw9⟩
      have b9 : Below w8.heap.size w8 w9 := hw9 ▸ below_drewN (Below.refl _ w8) q
      clear hw9 hm8
      have HM9 := hide2 (HM8.out.below b9 HM8.out.lt)
      have HB9 := hide2 (HB8.out.trans (b9.mono HB8.out.size))
      have HRA9 : Hid (w9.ownsRow w4.heap.size 39 5 (.slice (some ⟨ga, 0, none⟩) 1 ca) 1 ([⟨4, 1, k, s, true⟩].flatMap Tk.row)) := own_blk HRA8.out (fun j hj => b9.block j (HRA8.out.lt j hj).2)
      have HRB9 : Hid (w9.ownsRow w6.heap.size 39 5 (.slice (some ⟨gb, 0, none⟩) 2 cb) 2 ([⟨3, 1, 0, [107, 101, 121], false⟩, ⟨4, 1, ((5 + k : Nat) : Int), s, true⟩].flatMap Tk.row)) := own_blk HRB8.out (fun j hj => b9.block j (HRB8.out.lt j hj).2)
      clear b9 HM8 HB8 HRA8 HRB8
      cases hpb : plB s with
      | false =>
        have a00 := row_cell HRA9.out 0 _ rfl 0 _ (by omega) rfl
        have a01 := row_cell HRA9.out 0 _ rfl 1 _ (by omega) rfl
        have a02 := row_cell HRA9.out 0 _ rfl 2 _ (by omega) rfl
        have a03 := row_cell HRA9.out 0 _ rfl 3 _ (by omega) rfl
        have a04 := row_cell HRA9.out 0 _ rfl 4 _ (by omega) rfl
        have c00 := row_cell HRB9.out 0 _ rfl 0 _ (by omega) rfl
        have c10 := row_cell HRB9.out 1 _ rfl 0 _ (by omega) rfl
        have c13 := row_cell HRB9.out 1 _ rfl 3 _ (by omega) rfl
        dsimp only at a00 a01 a02 a03 a04 c00 c10 c13
        clear hpb
        go_wp2
        go_ret
        refine ⟨ret_bool ?_, HB9.out⟩
        simp
      | true =>
        obtain ⟨tp1, tp2⟩ := told_pl s (by omega) hpb
        have hcv := run_bytes_of_string (P := Tryd.prog) w9 9 22 5 ⟨s.toArray⟩ Tryd.underlying9 Tryd.underlying22 Tryd.underlying5
        rw [hsz] at hcv
        clear hpb
        obtain ⟨cp, hcp⟩ : ∃ c, grownCap w9 S 0 5 = c := ⟨_, rfl⟩
        rw [hcp] at hcv
        obtain ⟨o9, ho9⟩ : ∃ o : Obj, o = .cells (bytesRow ⟨s.toArray⟩ cp) 5 ((bytesRow ⟨s.toArray⟩ cp).size, (bytesRow ⟨s.toArray⟩ cp).size + 1) := ⟨_, rfl⟩
        rw [← ho9] at hcv
        go_wp2_with fail
        have b10 : Below w9.heap.size w9 (w9.alloc (.cells (bytesRow ⟨s.toArray⟩ cp) 5 ((bytesRow ⟨s.toArray⟩ cp).size, (bytesRow ⟨s.toArray⟩ cp).size + 1))).drew := ((Below.refl _ w9).alloc (Nat.le_refl _) _).drew
        have hkk : (w9.alloc (.cells (bytesRow ⟨s.toArray⟩ cp) 5 ((bytesRow ⟨s.toArray⟩ cp).size, (bytesRow ⟨s.toArray⟩ cp).size + 1))).drew.heap[w9.heap.size]? = some (.cells (bytesRow ⟨s.toArray⟩ cp) 5 ((bytesRow ⟨s.toArray⟩ cp).size, (bytesRow ⟨s.toArray⟩ cp).size + 1)) := Go.heap_alloc_new w9 _
        obtain ⟨w10, hw10⟩ : ∃ W, (w9.alloc (.cells (bytesRow ⟨s.toArray⟩ cp) 5 ((bytesRow ⟨s.toArray⟩ cp).size, (bytesRow ⟨s.toArray⟩ cp).size + 1))).drew = W := ⟨_, rfl⟩
        rw [hw10] at b10 hkk ⊢
        have HH : Has w10 (some ⟨w9.heap.size, 0, none⟩) (zL s) := .inr ⟨_, rfl, fun j hj => by
          rw [zL_length] at hj
          rw [Addr.add_lit, Nat.zero_add, cell_block hkk, bytesRow_at _ _ _ (by simpa using hj)]
          simp [zL, List.getD, hj]⟩
        have HM10 := hide2 (HM9.out.below b10 HM9.out.lt)
        have HB10 := hide2 (HB9.out.trans (b10.mono HB9.out.size))
        have HRA10 : Hid (w10.ownsRow w4.heap.size 39 5 (.slice (some ⟨ga, 0, none⟩) 1 ca) 1 ([⟨4, 1, k, s, true⟩].flatMap Tk.row)) := own_blk HRA9.out (fun j hj => b10.block j (HRA9.out.lt j hj).2)
        have HRB10 : Hid (w10.ownsRow w6.heap.size 39 5 (.slice (some ⟨gb, 0, none⟩) 2 cb) 2 ([⟨3, 1, 0, [107, 101, 121], false⟩, ⟨4, 1, ((5 + k : Nat) : Int), s, true⟩].flatMap Tk.row)) := own_blk HRB9.out (fun j hj => b10.block j (HRB9.out.lt j hj).2)
        clear hw10 b10 hkk HM9 HB9 HRA9 HRB9 hcv
        refine (scan_call (some ⟨w9.heap.size, 0, none⟩) S cp s w10 hS HH (by unfold maxLen; omega) HM10.out _ 0 0 0 1 rfl tp1 tp2).mono ?_
        rintro e w11 ⟨avc, cc, rfl, hrc, havc, b11⟩
        obtain ⟨gc, rfl⟩ := havc (by omega)
        have HB11 := hide2 (HB10.out.trans (b11.mono HB10.out.size))
        have HRA11 : Hid (w11.ownsRow w4.heap.size 39 5 (.slice (some ⟨ga, 0, none⟩) 1 ca) 1 ([⟨4, 1, k, s, true⟩].flatMap Tk.row)) := own_blk HRA10.out (fun j hj => b11.block j (HRA10.out.lt j hj).2)
        have HRB11 : Hid (w11.ownsRow w6.heap.size 39 5 (.slice (some ⟨gb, 0, none⟩) 2 cb) 2 ([⟨3, 1, 0, [107, 101, 121], false⟩, ⟨4, 1, ((5 + k : Nat) : Int), s, true⟩].flatMap Tk.row)) := own_blk HRB10.out (fun j hj => b11.block j (HRB10.out.lt j hj).2)
        have a00 := row_cell HRA11.out 0 _ rfl 0 _ (by omega) rfl
        have a01 := row_cell HRA11.out 0 _ rfl 1 _ (by omega) rfl
        have a02 := row_cell HRA11.out 0 _ rfl 2 _ (by omega) rfl
        have a03 := row_cell HRA11.out 0 _ rfl 3 _ (by omega) rfl
        have a04 := row_cell HRA11.out 0 _ rfl 4 _ (by omega) rfl
        have c00 := row_cell HRB11.out 0 _ rfl 0 _ (by omega) rfl
        have c10 := row_cell HRB11.out 1 _ rfl 0 _ (by omega) rfl
        have c13 := row_cell HRB11.out 1 _ rfl 3 _ (by omega) rfl
        have e03 := row_cell hrc 0 _ rfl 3 _ (by omega) rfl
        have e04 := row_cell hrc 0 _ rfl 4 _ (by omega) rfl
        dsimp only at a00 a01 a02 a03 a04 c00 c10 c13 e03 e04
        have la := (HRA11.out.lt ga rfl).2
        have lb := (HRB11.out.lt gb rfl).2
        have lc := (hrc.lt gc rfl).2
        clear hrc b11 havc HRA10 HRB10 HB10 HM10 HH tp1 tp2 HRA11 HRB11
        go_wp2
        go_ret
        refine ⟨ret_bool ?_, HB11.out.alloc HB11.out.size _⟩
        simp
theorem quoted_str (a : ByteArray) (b : Int) (w : World) (hm : HasM w) (hs : a.size ≤ 140737488355328) (hb0 : -9223372036854775808 ≤ b) (hb1 : b ≤ 9223372036854775807) :
    Calls Tryd.prog 6 #[.string a, .int .i64 b] w fun e w' => e = .returned (.bool true) ∧ Below w.heap.size w w' := by
  have h := quoted_any a.data.toList b w hm (by rw [← size_list]; exact hs) hb0 hb1
  rw [Array.toArray_toList] at h
  exact h
end Go.Proofs.YtjmgngocpokpgaaDoor
