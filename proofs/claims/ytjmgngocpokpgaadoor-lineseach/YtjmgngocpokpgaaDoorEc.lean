/-
  The sequence of Each handed a closure of the statement's own.
-/
import Derived.Test.YtjmgngocpokpgaaDoorEch
namespace Go.Proofs.YtjmgngocpokpgaaDoor
open Go.RowKit
set_option linter.unusedVariables false
set_option linter.unusedSimpArgs false
/-- All but the consumer's own cells is as it was. -/
structure Kx (O : List Nat) (A B : World) : Prop where
  os : B.os = A.os
  tape : B.tape = A.tape
  output : B.output = A.output
  size : A.heap.size ≤ B.heap.size
  block : ∀ k, k < A.heap.size → ¬ k ∈ O → B.heap[k]? = A.heap[k]?
theorem Kx.refl (O : List Nat) (A : World) : Kx O A A := ⟨rfl, rfl, rfl, Nat.le_refl _, fun _ _ _ => rfl⟩
theorem Kx.trans {O : List Nat} {A B C : World} (h : Kx O A B) (g : Kx O B C) : Kx O A C := ⟨g.os.trans h.os, g.tape.trans h.tape, g.output.trans h.output, Nat.le_trans h.size g.size, fun k hk hn => (g.block k (Nat.lt_of_lt_of_le hk h.size) hn).trans (h.block k hk hn)⟩
theorem Kx.of_below {O : List Nat} {A B : World} (h : Below A.heap.size A B) : Kx O A B := ⟨h.os, h.tape, h.output, h.size, fun k hk _ => h.block k hk⟩
theorem Kx.set {O : List Nat} (A : World) {b : Nat} (hb : b ∈ O) (o : Nat) (v : Value) : Kx O A (A.setCell ⟨b, o, none⟩ v) :=
  have h := Below.setCell (Below.refl b A) (p := ⟨b, o, none⟩) (Nat.le_refl _) v
  ⟨h.os, h.tape, h.output, h.size, fun k hk hn => Below.heap_setCell _ _ _ _ (fun e => hn (by rw [e]; exact hb))⟩
theorem Kx.cell {O : List Nat} {A B : World} (h : Kx O A B) {b o : Nat} {v : Value} (hc : A.cell? ⟨b, o, none⟩ = some v) (hn : ¬ b ∈ O) : B.cell? ⟨b, o, none⟩ = some v :=
  (World.cell?_of_block (w := A) (a := ⟨b, o, none⟩) (h.block b (World.block_lt_of_cell? A _ hc) hn)).trans hc
theorem Kx.below {O : List Nat} {A B : World} {n : Nat} (h : Kx O A B) (hn : n ≤ A.heap.size) (ho : ∀ k ∈ O, n ≤ k) : Below n A B := ⟨h.os, h.tape, h.output, h.size, fun k hk => h.block k (by omega) (fun hO => by have := ho k hO; omega)⟩
/-- What stands between two of the sequence's steps. -/
structure Sx (O : List Nat) (m : Int) (W0 : World) (J : List Tl → World → Prop) (pre : List Tl) (W : World) : Prop where
  j : J pre W
  mx : W.cell? ⟨0, 0, none⟩ = some (.int .i64 m)
  kx : Kx O W0 W
theorem Sx.next {O : List Nat} {m : Int} {W0 : World} {J : List Tl → World → Prop} {pre pre' : List Tl} {W W' : World} (h0 : ¬ 0 ∈ O) (h : Sx O m W0 J pre W) (hj : J pre' W') (k : Kx O W W') : Sx O m W0 J pre' W' := ⟨hj, k.cell h.mx h0, h.kx.trans k⟩
theorem Sx.below {O : List Nat} {m : Int} {W0 : World} {J : List Tl → World → Prop} {pre : List Tl} {W W' : World} (h0 : ¬ 0 ∈ O) (h : Sx O m W0 J pre W) (hJa : ∀ pre A B, J pre A → Below A.heap.size A B → J pre B) (hb : Below W.heap.size W W') : Sx O m W0 J pre W' := h.next h0 (hJa pre W W' h.j hb) (Kx.of_below hb)
set_option maxRecDepth 100000 in
set_option maxHeartbeats 4000000 in
theorem eachc (p1 p2 p3 p4 p5 p6 p7 : Nat) (Bn : Nat) (s : List UInt8) (hs : s.length ≤ 65536) (mm : Int) (O : List Nat) (J Jx : List Tl → World → Prop) (W0 : World) (hO : ∀ k ∈ O, k < W0.heap.size) (h00 : ¬ 0 ∈ O) (hJa : ∀ pre A B, J pre A → Below A.heap.size A B → J pre B)
    (hY : ∀ pre x W1, J pre W1 → pre ++ [x] <+: allF s → Calls Tryd.prog 16 #[.agg #[.int .i64 x.tk.kind, .int .i64 x.tk.line, .int .i64 x.tk.col, .string ⟨x.tk.text.toArray⟩, .bool x.tk.q], .agg #[.int .i64 x.d, .int .i64 x.ln, .int .i64 x.e], .pointer (some ⟨p1, 0, none⟩), .pointer (some ⟨p2, 0, none⟩), .pointer (some ⟨p3, 0, none⟩), .pointer (some ⟨p4, 0, none⟩), .pointer (some ⟨p5, 0, none⟩), .pointer (some ⟨p6, 0, none⟩), .pointer (some ⟨p7, 0, none⟩)] W1 fun e W' =>
      (e = .returned (.bool true) ∧ J (pre ++ [x]) W' ∧ Kx O W1 W') ∨ (e = .returned (.bool false) ∧ Jx (pre ++ [x]) W'))
    (hcB : W0.cell? ⟨Bn, 0, none⟩ = some (.string ⟨s.toArray⟩)) (hS0 : Sx O mm W0 J [] W0) :
    Calls Tryd.prog 27 #[.func (.func 16) #[] #[.pointer (some ⟨p1, 0, none⟩), .pointer (some ⟨p2, 0, none⟩), .pointer (some ⟨p3, 0, none⟩), .pointer (some ⟨p4, 0, none⟩), .pointer (some ⟨p5, 0, none⟩), .pointer (some ⟨p6, 0, none⟩), .pointer (some ⟨p7, 0, none⟩)], .pointer (some ⟨Bn, 0, none⟩)] W0 fun e W' => (∃ v, e = .returned v) ∧
      (J (allF s) W' ∨ (∃ pre, pre <+: allF s ∧ Jx pre W')) := by
  have HY := hide2 hY
  have HO := hide2 hO
  clear hY hO
  go_enter Tryd.func27, Tryd.ntmps27
  go_wp2
  go_loopw [3, 4, 5] (fun t3 t4 t5 wr => ∃ (pre : List Tl) (n : Nat) (rest : List UInt8) (num docs : Nat), t3 = .string ⟨rest.toArray⟩ ∧ t4 = .int .i64 docs ∧ t5 = .int .i64 num ∧ allF s = pre ++ linF n rest num docs ∧ rest.length < n ∧ pre.length + rest.length ≤ s.length ∧ num + rest.length ≤ s.length + 1 ∧ docs ≤ pre.length ∧ Sx O mm W0 J pre wr) (fun _ _ t5 _ => s.length + 2 - (intOf t5).toNat)
  case atStart => exact ⟨[], s.length + 1, s, 1, 0, rfl, rfl, rfl, rfl, by omega, by simp, by omega, by simp, hS0⟩
  case round =>
    obtain ⟨pre, n, rest, num, docs, rfl, rfl, rfl, he, hn, hpl, hnl, hdl, hSt⟩ := hrel
    have HE := hide2 he
    have HS := hide2 hSt
    clear he hSt
    by_cases hr : rest = []
    · subst hr
      go_wp2
      refine bodyPost_end (results_none rfl _ _ _) rfl ?_
      exact ⟨⟨_, rfl⟩, .inl (by rw [HE.out, linF_nil, List.append_nil]; exact HS.out.j)⟩
    · have hr' : rest.isEmpty = false := by cases rest with | nil => exact absurd rfl hr | cons => rfl
      obtain ⟨a, b, f, hcut⟩ : ∃ a b f, Lib.cut rest [10] = (a, b, f) := ⟨_, _, _, rfl⟩
      have hcl := cut10 rest hr
      rw [hcut] at hcl
      dsimp only at hcl
      have hrl : rest.length ≤ 2 ^ 30 := by omega
      have c28 := cut10_call rest mm _ hrl HS.out.mx a b f hcut
      go_wp2_with fail
      refine c28.mono ?_
      rintro e w1 ⟨rfl, b1⟩
      have HS1 := hide2 (HS.out.below h00 hJa b1)
      clear b1 c28 HS
      have hfew := readF_few a num
      have c29 := read_any a num mm w1 (by omega) HS1.out.mx
      unfold RdE at c29
      obtain ⟨n, rfl⟩ : ∃ n', n = n' + 1 := ⟨n - 1, by omega⟩
      have hlin : linF (n + 1) rest num docs = if (readF a num).2 ≠ 0 then [⟨zTk, docs, num, (readF a num).2⟩] else (readF a num).1.map okT ++ linF n b (num + 1) (docs + docN (readF a num).1) := by
        rw [linF, if_neg hr, hcut]
      obtain ⟨ts, er, hre⟩ : ∃ ts er, readF a num = (ts, er) := ⟨_, _, rfl⟩
      rw [hre] at hlin hfew
      simp only [hre] at c29
      dsimp only at hlin hfew
      clear hcut hre
      go_wp2_with fail
      refine c29.mono ?_
      rintro e w2 ⟨b2, tv, rfl, hrow⟩
      have hnot : ∀ k, tv.ownBlock = some k → ¬ k ∈ O := fun k hk hC => by
        have h1 := (hrow.lt k hk).1
        have h2 := HO.out k hC
        have := HS1.out.kx.size
        omega
      have HS2 := hide2 (HS1.out.below h00 hJa b2)
      have HRW := hide2 hrow
      have HNT := hide2 hnot
      clear b2 c29 hrow hnot
      by_cases h0 : er = 0
      · subst h0
        rw [if_neg (by simp)] at hlin
        have HL := hide2 hlin
        clear hlin
        obtain ⟨av, cv, rfl, hav⟩ := own_sh HRW.out
        obtain ⟨N, hN⟩ : ∃ N, ts.length = N := ⟨_, rfl⟩
        rw [hN] at hfew HRW hav HNT
        have HNN := hide2 hN
        rw [hN]
        clear hN
        go_wp2_with fail
        go_loopw [4, 39] (fun t4 t39 wi => ∃ i : Nat, t39 = .int .i64 i ∧ i ≤ N ∧ t4 = .int .i64 (docs + docN (ts.take i) : Nat) ∧ Sx O mm W0 J (pre ++ (ts.take i).map okT) wi ∧ wi.ownsRow w1.heap.size 39 5 (.slice av N cv) N (ts.flatMap Tk.row)) (fun _ t39 _ => N - (intOf t39).toNat)
        case atStart => exact ⟨0, rfl, by omega, by simp [docN], by simpa using HS2.out, HRW.out⟩
        case round =>
          obtain ⟨i, rfl, hi, rfl, hSi, hRi⟩ := hrel
          have i0 : (0 : Int) ≤ i := by omega
          by_cases hiN : i < N
          · have hi2 : (i : Int) < N := by omega
            obtain ⟨g, rfl⟩ := hav (by omega)
            rcases hti : ts[i]? with _ | t
            · have := List.getElem?_eq_none_iff.1 hti; have := HNN.out; omega
            have htk : ts.take (i + 1) = ts.take i ++ [t] := by
              obtain ⟨h1, h2⟩ := List.getElem?_eq_some_iff.1 hti
              rw [List.take_succ_eq_append_getElem h1, h2]
            have hpx : (pre ++ (ts.take i).map okT) ++ [okT t] <+: allF s := by
              rw [HE.out, HL.out]
              have e1 : (pre ++ (ts.take i).map okT) ++ [okT t] = pre ++ (ts.take (i + 1)).map okT := by rw [htk]; simp
              rw [e1, ← List.append_assoc]
              refine List.IsPrefix.trans ?_ (List.prefix_append _ _)
              exact (List.prefix_append_right_inj pre).2 ((List.take_prefix _ _).map _)
            have hdc := docN_snoc (ts.take i) t
            rw [← htk] at hdc
            have hdn : docN (ts.take i) ≤ N := by
              have := docN_le (ts.take i)
              simp at this; omega
            have c0 := row_cell hRi i t hti 0 _ (by omega) rfl
            have c1 := row_cell hRi i t hti 1 _ (by omega) rfl
            have c2 := row_cell hRi i t hti 2 _ (by omega) rfl
            have c3 := row_cell hRi i t hti 3 _ (by omega) rfl
            have c4 := row_cell hRi i t hti 4 _ (by omega) rfl
            rw [Nat.add_zero] at c0
            have hgl := (hRi.lt g rfl).2
            have HTK := hide2 htk
            have HDC := hide2 hdc
            obtain ⟨D, hD⟩ : ∃ D, docs + docN (ts.take i) = D := ⟨_, rfl⟩
            have hDl : D ≤ 2 ^ 40 := by omega
            have HD := hide2 hD
            rw [hD]
            clear htk hdc hD hti
            obtain ⟨kd, ln, cl, tx, q⟩ := t
            dsimp only at c0 c1 c2 c3 c4 HDC
            have hba : Below wr.heap.size wr (wr.alloc (.cells #[.int .i64 kd, .int .i64 ln, .int .i64 cl, .string ⟨tx.toArray⟩, .bool q] 39)) := (Below.refl _ wr).alloc (Nat.le_refl _) _
            have HSa := hide2 (hSi.below h00 hJa hba)
            have HRa : Hid ((wr.alloc (.cells #[.int .i64 kd, .int .i64 ln, .int .i64 cl, .string ⟨tx.toArray⟩, .bool q] 39)).ownsRow w1.heap.size 39 5 (.slice (some ⟨g, 0, none⟩) N cv) N (ts.flatMap Tk.row)) := own_blk hRi (fun k hk => hba.block k (hRi.lt k hk).2)
            have HC : Hid (Calls Tryd.prog 16 #[.agg #[.int .i64 kd, .int .i64 ln, .int .i64 cl, .string ⟨tx.toArray⟩, .bool q], .agg #[.int .i64 0, .int .i64 0, .int .i64 0], .pointer (some ⟨p1, 0, none⟩), .pointer (some ⟨p2, 0, none⟩), .pointer (some ⟨p3, 0, none⟩), .pointer (some ⟨p4, 0, none⟩), .pointer (some ⟨p5, 0, none⟩), .pointer (some ⟨p6, 0, none⟩), .pointer (some ⟨p7, 0, none⟩)] (wr.alloc (.cells #[.int .i64 kd, .int .i64 ln, .int .i64 cl, .string ⟨tx.toArray⟩, .bool q] 39)) fun e W' =>
              (e = .returned (.bool true) ∧ J ((pre ++ (ts.take i).map okT) ++ [okT ⟨kd, ln, cl, tx, q⟩]) W' ∧ Kx O (wr.alloc (.cells #[.int .i64 kd, .int .i64 ln, .int .i64 cl, .string ⟨tx.toArray⟩, .bool q] 39)) W') ∨ (e = .returned (.bool false) ∧ Jx ((pre ++ (ts.take i).map okT) ++ [okT ⟨kd, ln, cl, tx, q⟩]) W')) := HY.out _ (okT ⟨kd, ln, cl, tx, q⟩) _ HSa.out.j hpx
            have HPX := hide2 hpx
            have HI := hide2 hi
            clear hpx hSi hRi hba hi HRW HS2 HS1 hav
            have fin : ∀ W3, J ((pre ++ (ts.take i).map okT) ++ [okT ⟨kd, ln, cl, tx, q⟩]) W3 → Kx O (wr.alloc (.cells #[.int .i64 kd, .int .i64 ln, .int .i64 cl, .string ⟨tx.toArray⟩, .bool q] 39)) W3 → Sx O mm W0 J (pre ++ (ts.take (i + 1)).map okT) W3 ∧ W3.ownsRow w1.heap.size 39 5 (.slice (some ⟨g, 0, none⟩) N cv) N (ts.flatMap Tk.row) := fun W3 h1 h2 => by
              refine ⟨?_, own_blk HRa.out (fun k hk => h2.block k (HRa.out.lt k hk).2 (HNT.out k hk))⟩
              have := HSa.out.next h00 h1 h2
              rw [HTK.out]
              simpa using this
            have FIN := hide2 fin
            clear fin
            by_cases hk : kd = 1
            · subst hk
              go_wp2_with fail
              refine HC.out.mono ?_
              rintro e W3 (⟨rfl, hJ3, hk3⟩ | ⟨rfl, hJx3⟩)
              · go_wp2
                go_roundw
                case rel => exact ⟨i + 1, by go_num, by omega, by have := HD.out; rw [HDC.out]; simp; omega, (FIN.out W3 hJ3 hk3).1, (FIN.out W3 hJ3 hk3).2⟩
                case measure => simp [intOf]; omega
              · go_wp2
                refine bodyPost_ret (results_none rfl _ _ _) rfl ?_
                exact ⟨⟨_, rfl⟩, .inr ⟨_, HPX.out, hJx3⟩⟩
            · have hk' : (kd == 1) = false := by simpa using hk
              go_wp2_with fail
              refine HC.out.mono ?_
              rintro e W3 (⟨rfl, hJ3, hk3⟩ | ⟨rfl, hJx3⟩)
              · go_wp2
                go_roundw
                case rel => exact ⟨i + 1, by go_num, by omega, by have := HD.out; rw [HDC.out]; simp [hk]; omega, (FIN.out W3 hJ3 hk3).1, (FIN.out W3 hJ3 hk3).2⟩
                case measure => simp [intOf]; omega
              · go_wp2
                refine bodyPost_ret (results_none rfl _ _ _) rfl ?_
                exact ⟨⟨_, rfl⟩, .inr ⟨_, HPX.out, hJx3⟩⟩
          · have hi2 : ¬ (i : Int) < N := by omega
            obtain rfl : i = N := by omega
            have htk : ts.take i = ts := List.take_of_length_le (by rw [HNN.out]; omega)
            rw [htk] at hSi ⊢
            have hdn := docN_le ts
            rw [HNN.out] at hdn
            have hd1 : docs + docN ts ≤ 2 ^ 40 := by omega
            obtain ⟨D, hD⟩ : ∃ D, docs + docN ts = D := ⟨_, rfl⟩
            rw [hD] at HL ⊢
            have HSi := hide2 hSi
            clear htk hSi hRi
            go_wp2
            go_roundw
            case rel => exact ⟨pre ++ ts.map okT, n, b, num + 1, D, rfl, rfl, by go_num, by rw [HE.out, HL.out, List.append_assoc], by omega, by simp [HNN.out]; omega, by omega, by simp [HNN.out]; omega, HSi.out⟩
            case measure => simp [intOf]; omega
      · rw [if_pos h0] at hlin
        have HL := hide2 hlin
        clear hlin
        have h0' : (er != 0) = true := by simpa using h0
        have hpx : pre ++ [⟨zTk, docs, num, er⟩] <+: allF s := by rw [HE.out, HL.out]; exact List.prefix_refl _
        have HC : Hid (Calls Tryd.prog 16 #[.agg #[.int .i64 0, .int .i64 0, .int .i64 0, .string ⟨#[]⟩, .bool false], .agg #[.int .i64 docs, .int .i64 num, .int .i64 er], .pointer (some ⟨p1, 0, none⟩), .pointer (some ⟨p2, 0, none⟩), .pointer (some ⟨p3, 0, none⟩), .pointer (some ⟨p4, 0, none⟩), .pointer (some ⟨p5, 0, none⟩), .pointer (some ⟨p6, 0, none⟩), .pointer (some ⟨p7, 0, none⟩)] w2 fun e W' =>
              (e = .returned (.bool true) ∧ J (pre ++ [⟨zTk, docs, num, er⟩]) W' ∧ Kx O w2 W') ∨ (e = .returned (.bool false) ∧ Jx (pre ++ [⟨zTk, docs, num, er⟩]) W')) := HY.out pre ⟨zTk, docs, num, er⟩ w2 HS2.out.j hpx
        have HPX := hide2 hpx
        clear hpx
        go_wp2_with fail
        refine HC.out.mono ?_
        rintro e W3 (⟨rfl, hJ3, hk3⟩ | ⟨rfl, hJx3⟩)
        · go_wp2
          refine bodyPost_ret (results_none rfl _ _ _) rfl ?_
          exact ⟨⟨_, rfl⟩, .inl (by rw [HE.out, HL.out]; exact hJ3)⟩
        · go_wp2
          refine bodyPost_ret (results_none rfl _ _ _) rfl ?_
          exact ⟨⟨_, rfl⟩, .inr ⟨_, HPX.out, hJx3⟩⟩
theorem eachl (p1 p2 p3 p4 p5 p6 p7 : Nat) (J Jx : List Tl → World → Prop) (W0 : World)
    (hY : Calls Tryd.prog 16 #[.agg #[.int .i64 0, .int .i64 0, .int .i64 0, .string ⟨#[]⟩, .bool false], .agg #[.int .i64 0, .int .i64 0, .int .i64 3], .pointer (some ⟨p1, 0, none⟩), .pointer (some ⟨p2, 0, none⟩), .pointer (some ⟨p3, 0, none⟩), .pointer (some ⟨p4, 0, none⟩), .pointer (some ⟨p5, 0, none⟩), .pointer (some ⟨p6, 0, none⟩), .pointer (some ⟨p7, 0, none⟩)] W0 fun e W' =>
      (e = .returned (.bool true) ∧ J [longT] W') ∨ (e = .returned (.bool false) ∧ Jx [longT] W')) :
    Calls Tryd.prog 26 #[.func (.func 16) #[] #[.pointer (some ⟨p1, 0, none⟩), .pointer (some ⟨p2, 0, none⟩), .pointer (some ⟨p3, 0, none⟩), .pointer (some ⟨p4, 0, none⟩), .pointer (some ⟨p5, 0, none⟩), .pointer (some ⟨p6, 0, none⟩), .pointer (some ⟨p7, 0, none⟩)]] W0 fun e W' => (∃ v, e = .returned v) ∧ (J [longT] W' ∨ (∃ pre, pre <+: [longT] ∧ Jx pre W')) := by
  go_enter Tryd.func26, Tryd.ntmps26
  go_wp2_with fail
  refine hY.mono ?_
  rintro e W3 (⟨rfl, hJ3⟩ | ⟨rfl, hJx3⟩)
  · go_wp2
    refine bodyPost_end (results_none rfl _ _ _) rfl ?_
    exact ⟨⟨_, rfl⟩, .inl hJ3⟩
  · go_wp2
    refine bodyPost_end (results_none rfl _ _ _) rfl ?_
    exact ⟨⟨_, rfl⟩, .inr ⟨_, List.prefix_refl _, hJx3⟩⟩
end Go.Proofs.YtjmgngocpokpgaaDoor
