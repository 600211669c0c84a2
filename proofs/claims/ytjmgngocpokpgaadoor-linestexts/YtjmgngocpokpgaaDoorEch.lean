/-
  The sequence that lines.Each tells: its word.
-/
import Derived.Test.YtjmgngocpokpgaaDoorSq
namespace Go.Proofs.YtjmgngocpokpgaaDoor
open Go.RowKit Go.Shelf
set_option linter.unusedVariables false
set_option linter.unusedSimpArgs false
attribute [local go_sem] Oper.semAt_some
theorem cut10_call (l : List UInt8) (m : Int) (w : World) (hs : l.length ≤ 2 ^ 30) (hm : w.cell? ⟨0, 0, none⟩ = some (.int .i64 m)) (a b : List UInt8) (f : Bool) (h : Lib.cut l [10] = (a, b, f)) :
    Calls Tryd.prog 28 #[.string ⟨l.toArray⟩, .string ⟨#[10]⟩] w fun e w' => e = .returned (.tuple #[.string ⟨a.toArray⟩, .string ⟨b.toArray⟩, .bool f]) ∧ Below w.heap.size w w' := by
  have := Tryd.strings_Cut ⟨l.toArray⟩ ⟨#[10]⟩ m w (show l.length < _ by omega) hm
  have e : Lib.cut (ByteArray.mk l.toArray).data.toList (ByteArray.mk #[10]).data.toList = (a, b, f) := h
  rw [e] at this
  refine this.mono ?_
  rintro e w' ⟨rfl, q, rfl⟩
  exact ⟨rfl, below_drewN (Below.refl _ _) q⟩
theorem own_sh {w : World} {base : Nat} {e : TypeId} {size : Nat} {v : Value} {n : Nat} {xs : List Value} (h : w.ownsRow base e size v n xs) : ∃ a c, v = .slice a n c ∧ (0 < n → ∃ g, a = some ⟨g, 0, none⟩) := by
  rcases h.2 with ⟨rfl, rfl⟩ | ⟨g, cap, cur, rfl, _⟩
  · exact ⟨none, 0, rfl, fun h => by omega⟩
  · exact ⟨_, cap, rfl, fun _ => ⟨g, rfl⟩⟩
theorem flat_row (ts : List Tk) (i j : Nat) (t : Tk) (h : ts[i]? = some t) (hj : j < 5) : (ts.flatMap Tk.row)[i * 5 + j]? = t.row[j]? := by
  induction ts generalizing i with
  | nil => cases h
  | cons x xs ih =>
    cases i with
    | zero =>
      cases h
      rw [List.flatMap_cons, List.getElem?_append_left (by show 0 * 5 + j < 5; omega)]
      simp
    | succ i =>
      rw [List.flatMap_cons, List.getElem?_append_right (by show 5 ≤ _; omega)]
      have : (i + 1) * 5 + j - x.row.length = i * 5 + j := by show (i + 1) * 5 + j - 5 = _; omega
      rw [this]
      exact ih i h
/-- A token's cells in a row of tokens. -/
theorem row_cell {w : World} {base g n c : Nat} {ts : List Tk} (h : w.ownsRow base 39 5 (.slice (some ⟨g, 0, none⟩) n c) n (ts.flatMap Tk.row)) (i : Nat) (t : Tk) (ht : ts[i]? = some t) (j : Nat) (u : Value) (hj : j < 5) (hu : t.row[j]? = some u) : w.cell? ⟨g, i * 5 + j, none⟩ = some u := by
  have := h.cells rfl (i * 5 + j) u (by rw [flat_row ts i j t ht hj]; exact hu)
  rwa [Go.WideShapes.add_plain, Nat.zero_add] at this
/-- What stands between two of the sequence's steps. -/
structure Std (F : List Nat) (v : Nat) (m : Int) (W0 : World) (J : List Tl → World → Prop) (pre : List Tl) (W : World) : Prop where
  j : J pre W
  mx : Mx F v m W
  lt : v < W.heap.size
  inv : ∀ k, Cs F v W k → k < W.heap.size
  size : W0.heap.size ≤ W.heap.size
theorem Std.below {F : List Nat} {v : Nat} {m : Int} {W0 : World} {J : List Tl → World → Prop} {pre : List Tl} {W W' : World} (h : Std F v m W0 J pre W) (hJa : AbidesFrom W0.heap.size J) (hb : Below W.heap.size W W') : Std F v m W0 J pre W' := by
  have k : Kc F v W W' := Kc.of_below hb h.lt
  exact ⟨hJa pre W W' none h.j ⟨hb.os, hb.tape, hb.output, hb.size, fun j hj _ => hb.block j hj⟩ (fun r h => by cases h), h.mx.next k, Nat.lt_of_lt_of_le h.lt hb.size, k.inv h.inv, Nat.le_trans h.size hb.size⟩
theorem Std.next {F : List Nat} {v : Nat} {m : Int} {W0 : World} {J : List Tl → World → Prop} {pre pre' : List Tl} {W W' : World} (h : Std F v m W0 J pre W) (hj : J pre' W') (k : Kc F v W W') : Std F v m W0 J pre' W' :=
  ⟨hj, h.mx.next k, Nat.lt_of_lt_of_le h.lt k.size, k.inv h.inv, Nat.le_trans h.size k.size⟩
set_option maxRecDepth 100000 in
set_option maxHeartbeats 4000000 in
theorem each2_in (m : Nat) (hm : 1 ≤ m) (l Bn : Nat) (s : List UInt8) (hs : s.length ≤ 65536) (mm : Int) (F : List Nat) (v : Nat) (J Jx : List Tl → World → Prop) (W0 : World) (hJa : AbidesFrom W0.heap.size J)
    (hY : ∀ pre x W1, J pre W1 → pre ++ [x] <+: allF s → pre.length < s.length + 1 → YieldAt Fence.wide (m - 1) Tryd.prog l (tells x) W1 fun e W' =>
      (e = .returned (.bool true) ∧ J (pre ++ [x]) W' ∧ Kc F v W1 W') ∨ (e = .returned (.bool false) ∧ Jx (pre ++ [x]) W'))
    (hcB : W0.cell? ⟨Bn, 0, none⟩ = some (.string ⟨s.toArray⟩)) (hS0 : Std F v mm W0 J [] W0) :
    CallsIn Fence.wide m Tryd.prog 27 #[.func (.yield l) #[] #[], .pointer (some ⟨Bn, 0, none⟩)] W0 fun e W' => (∃ v, e = .returned v) ∧
      ((∃ xs, xs = allF s ∧ J xs W') ∨ (∃ pre, pre <+: allF s ∧ Jx pre W')) := by
  refine callsIn_of_wp Tryd.func27 rfl trivial ?_ rfl
  simp only [Tryd.ntmps27, List.size_toArray, List.length_cons, List.length_nil, Nat.reduceAdd, Nat.reduceSub, Array.replicate_succ, Array.replicate_zero, List.push_toArray, List.append_toArray, List.nil_append, List.cons_append]
  gi_wp2
  gi_loopw [3, 4, 5] (fun t3 t4 t5 wr => ∃ (pre : List Tl) (n : Nat) (rest : List UInt8) (num docs : Nat), t3 = .string ⟨rest.toArray⟩ ∧ t4 = .int .i64 docs ∧ t5 = .int .i64 num ∧ allF s = pre ++ linF n rest num docs ∧ rest.length < n ∧ pre.length + rest.length ≤ s.length ∧ num + rest.length ≤ s.length + 1 ∧ docs ≤ pre.length ∧ Std F v mm W0 J pre wr) (fun _ _ t5 _ => s.length + 2 - (intOf t5).toNat)
  case atStart => exact ⟨[], s.length + 1, s, 1, 0, rfl, rfl, rfl, rfl, by omega, by simp, by omega, by simp, hS0⟩
  case round =>
    obtain ⟨pre, n, rest, num, docs, rfl, rfl, rfl, he, hn, hpl, hnl, hdl, hSt⟩ := hrel
    have HE := hide2 he
    have HS := hide2 hSt
    clear he hSt
    by_cases hr : rest = []
    · subst hr
      gi_wp2
      refine bodyPost_end (results_none rfl _ _ _) rfl ?_
      exact ⟨⟨_, rfl⟩, .inl ⟨pre, by rw [HE.out, linF_nil]; simp, HS.out.j⟩⟩
    · have hr' : rest.isEmpty = false := by cases rest with | nil => exact absurd rfl hr | cons => rfl
      obtain ⟨a, b, f, hcut⟩ : ∃ a b f, Lib.cut rest [10] = (a, b, f) := ⟨_, _, _, rfl⟩
      have hcl := cut10 rest hr
      rw [hcut] at hcl
      dsimp only at hcl
      have hrl : rest.length ≤ 2 ^ 30 := by omega
      have c28 := cut10_call rest mm _ hrl HS.out.mx.cell a b f hcut
      gi_wp2_with fail
      refine ⟨trivial, ?_⟩
      refine (callsIn_wide.2 c28).mono ?_
      rintro e w1 ⟨rfl, b1⟩
      have HS1 := hide2 (HS.out.below hJa b1)
      clear b1 c28 HS
      have hfew := readF_few a num
      have c29 := read_any a num mm w1 (by omega) HS1.out.mx.cell
      unfold RdE at c29
      obtain ⟨n, rfl⟩ : ∃ n', n = n' + 1 := ⟨n - 1, by omega⟩
      have hlin : linF (n + 1) rest num docs = if (readF a num).2 ≠ 0 then [⟨zTk, docs, num, (readF a num).2⟩] else (readF a num).1.map okT ++ linF n b (num + 1) (docs + docN (readF a num).1) := by
        rw [linF, if_neg hr, hcut]
      obtain ⟨ts, er, hre⟩ : ∃ ts er, readF a num = (ts, er) := ⟨_, _, rfl⟩
      rw [hre] at hlin hfew
      simp only [hre] at c29
      dsimp only at hlin hfew
      clear hcut hre
      gi_wp2_with fail
      refine ⟨trivial, ?_⟩
      refine (callsIn_wide.2 c29).mono ?_
      rintro e w2 ⟨b2, tv, rfl, hrow⟩
      have hnot : ∀ k, tv.ownBlock = some k → ¬ Cs F v w2 k := fun k hk hC => by
        have h1 := (hrow.lt k hk).1
        have h2 : Cs F v w1 k := (cs_iff (b2.cell (p := ⟨v, 0, none⟩) HS1.out.lt) k).1 hC
        have := HS1.out.inv k h2
        omega
      have HS2 := hide2 (HS1.out.below hJa b2)
      have HRW := hide2 hrow
      have HNT := hide2 hnot
      clear b2 c29 hrow hnot
      by_cases h0 : er = 0
      · subst h0
        rw [if_neg (by simp)] at hlin
        have HL := hide2 hlin
        clear hlin
        obtain ⟨av, cv, rfl, hav⟩ := own_sh HRW.out
        obtain ⟨N, hN⟩ : ∃ N, ts.length = N := ⟨_, rfl⟩
        rw [hN] at hfew HRW hav HNT
        have HNN := hide2 hN
        rw [hN]
        clear hN
        gi_wp2_with fail
        gi_loopw [4, 39] (fun t4 t39 wi => ∃ i : Nat, t39 = .int .i64 i ∧ i ≤ N ∧ t4 = .int .i64 (docs + docN (ts.take i) : Nat) ∧ Std F v mm W0 J (pre ++ (ts.take i).map okT) wi ∧ wi.ownsRow w1.heap.size 39 5 (.slice av N cv) N (ts.flatMap Tk.row) ∧ ∀ k, (Value.slice av N cv).ownBlock = some k → ¬ Cs F v wi k) (fun _ t39 _ => N - (intOf t39).toNat)
        case atStart => exact ⟨0, rfl, by omega, by simp [docN], by simpa using HS2.out, HRW.out, HNT.out⟩
        case round =>
          obtain ⟨i, rfl, hi, rfl, hSi, hRi, hNi⟩ := hrel
          have i0 : (0 : Int) ≤ i := by omega
          by_cases hiN : i < N
          · have hi2 : (i : Int) < N := by omega
            obtain ⟨g, rfl⟩ := hav (by omega)
            rcases hti : ts[i]? with _ | t
            · have := List.getElem?_eq_none_iff.1 hti; have := HNN.out; omega
            have htk : ts.take (i + 1) = ts.take i ++ [t] := by
              obtain ⟨h1, h2⟩ := List.getElem?_eq_some_iff.1 hti
              rw [List.take_succ_eq_append_getElem h1, h2]
            have hpx : (pre ++ (ts.take i).map okT) ++ [okT t] <+: allF s := by
              rw [HE.out, HL.out]
              have e1 : (pre ++ (ts.take i).map okT) ++ [okT t] = pre ++ (ts.take (i + 1)).map okT := by rw [htk]; simp
              rw [e1, ← List.append_assoc]
              refine List.IsPrefix.trans ?_ (List.prefix_append _ _)
              exact (List.prefix_append_right_inj pre).2 ((List.take_prefix _ _).map _)
            have hpl2 : (pre ++ (ts.take i).map okT).length < s.length + 1 := by simp; omega
            have hdc := docN_snoc (ts.take i) t
            rw [← htk] at hdc
            have hdn : docN (ts.take i) ≤ N := by
              have := docN_le (ts.take i)
              simp at this; omega
            have c0 := row_cell hRi i t hti 0 _ (by omega) rfl
            have c1 := row_cell hRi i t hti 1 _ (by omega) rfl
            have c2 := row_cell hRi i t hti 2 _ (by omega) rfl
            have c3 := row_cell hRi i t hti 3 _ (by omega) rfl
            have c4 := row_cell hRi i t hti 4 _ (by omega) rfl
            rw [Nat.add_zero] at c0
            have hgl := (hRi.lt g rfl).2
            have HTK := hide2 htk
            have HDC := hide2 hdc
            obtain ⟨D, hD⟩ : ∃ D, docs + docN (ts.take i) = D := ⟨_, rfl⟩
            have hDl : D ≤ 2 ^ 40 := by omega
            have HD := hide2 hD
            rw [hD]
            clear htk hdc hD hti
            obtain ⟨kd, ln, cl, tx, q⟩ := t
            dsimp only at c0 c1 c2 c3 c4 HDC
            obtain ⟨wa, hwa⟩ : ∃ wa, wr.alloc (.cells #[.int .i64 kd, .int .i64 ln, .int .i64 cl, .string ⟨tx.toArray⟩, .bool q] 39) = wa := ⟨_, rfl⟩
            have hba : Below wr.heap.size wr wa := by rw [← hwa]; exact (Below.refl _ wr).alloc (Nat.le_refl _) _
            have hSa := hSi.below hJa hba
            obtain ⟨hRa, hNa⟩ := (Kc.of_below (F := F) hba hSi.lt).row hRi hNi
            obtain ⟨fn, tmps, assign, body, hy, hR⟩ := hY _ (okT ⟨kd, ln, cl, tx, q⟩) wa hSa.j hpx hpl2
            have hy2 : (Instr.yield l #[.agg #[.int .i64 kd, .int .i64 ln, .int .i64 cl, .string ⟨tx.toArray⟩, .bool q], .agg #[.int .i64 0, .int .i64 0, .int .i64 0]]).run Tryd.prog (wr.alloc (.cells #[.int .i64 kd, .int .i64 ln, .int .i64 cl, .string ⟨tx.toArray⟩, .bool q] 39)) = .ok (.round l fn tmps assign body) wa := by rw [hwa]; exact hy
            have HPX := hide2 hpx
            have HSa := hide2 hSa
            have HRa := hide2 hRa
            have HNa := hide2 hNa
            have HI := hide2 hi
            clear hy hpx hSa hRa hNa hSi hRi hNi hba hwa hY hi HRW HNT HS2 HS1 hav
            by_cases hk : kd = 1
            · subst hk
              gi_wp2_with fail
              refine hR.mono ?_
              rintro e W3 (⟨rfl, hJ3, hk3⟩ | ⟨rfl, hJx3⟩)
              · gi_wp2
                obtain ⟨hR3, hN3⟩ := hk3.row HRa.out HNa.out
                have hS3 := HSa.out.next hJ3 hk3
                go_roundw
                case rel => exact ⟨i + 1, by go_num, by omega, by have := HD.out; rw [HDC.out]; simp; omega, by rw [HTK.out]; simpa using hS3, hR3, hN3⟩
                case measure => simp [intOf]; omega
              · gi_wp2
                refine bodyPost_ret (results_none rfl _ _ _) rfl ?_
                exact ⟨⟨_, rfl⟩, .inr ⟨_, HPX.out, hJx3⟩⟩
            · have hk' : (kd == 1) = false := by simpa using hk
              gi_wp2_with fail
              refine hR.mono ?_
              rintro e W3 (⟨rfl, hJ3, hk3⟩ | ⟨rfl, hJx3⟩)
              · gi_wp2
                obtain ⟨hR3, hN3⟩ := hk3.row HRa.out HNa.out
                have hS3 := HSa.out.next hJ3 hk3
                go_roundw
                case rel => exact ⟨i + 1, by go_num, by omega, by have := HD.out; rw [HDC.out]; simp [hk]; omega, by rw [HTK.out]; simpa using hS3, hR3, hN3⟩
                case measure => simp [intOf]; omega
              · gi_wp2
                refine bodyPost_ret (results_none rfl _ _ _) rfl ?_
                exact ⟨⟨_, rfl⟩, .inr ⟨_, HPX.out, hJx3⟩⟩
          · have hi2 : ¬ (i : Int) < N := by omega
            obtain rfl : i = N := by omega
            have htk : ts.take i = ts := List.take_of_length_le (by rw [HNN.out]; omega)
            rw [htk] at hSi ⊢
            have hdn := docN_le ts
            rw [HNN.out] at hdn
            have hd1 : docs + docN ts ≤ 2 ^ 40 := by omega
            obtain ⟨D, hD⟩ : ∃ D, docs + docN ts = D := ⟨_, rfl⟩
            rw [hD] at HL ⊢
            have HSi := hide2 hSi
            clear htk hSi hRi hNi
            gi_wp2
            go_roundw
            case rel => exact ⟨pre ++ ts.map okT, n, b, num + 1, D, rfl, rfl, by go_num, by rw [HE.out, HL.out, List.append_assoc], by omega, by simp [HNN.out]; omega, by omega, by simp [HNN.out]; omega, HSi.out⟩
            case measure => simp [intOf]; omega
      · rw [if_pos h0] at hlin
        have HL := hide2 hlin
        clear hlin
        have h0' : (er != 0) = true := by simpa using h0
        have hpx : pre ++ [⟨zTk, docs, num, er⟩] <+: allF s := by rw [HE.out, HL.out]; exact List.prefix_refl _
        obtain ⟨fn, tmps, assign, body, hy, hR⟩ := hY pre ⟨zTk, docs, num, er⟩ w2 HS2.out.j hpx (by omega)
        have hy' : (Instr.yield l #[.agg #[.int .i64 0, .int .i64 0, .int .i64 0, .string ⟨#[]⟩, .bool false], .agg #[.int .i64 docs, .int .i64 num, .int .i64 er]]).run Tryd.prog w2 = .ok (.round l fn tmps assign body) w2 := hy
        have HPX := hide2 hpx
        clear hy hpx
        gi_wp2_with fail
        refine hR.mono ?_
        rintro e W3 (⟨rfl, hJ3, hk3⟩ | ⟨rfl, hJx3⟩)
        · gi_wp2
          refine bodyPost_ret (results_none rfl _ _ _) rfl ?_
          exact ⟨⟨_, rfl⟩, .inl ⟨_, by rw [HE.out, HL.out], hJ3⟩⟩
        · gi_wp2
          refine bodyPost_ret (results_none rfl _ _ _) rfl ?_
          exact ⟨⟨_, rfl⟩, .inr ⟨_, HPX.out, hJx3⟩⟩
/-- The sequence's word. -/
theorem each_seq (m : Nat) (hm : 1 ≤ m) (Bn : Nat) (s : List UInt8) (hs : s.length ≤ 65536) (mm : Int) (F : List Nat) (v : Nat) (w : World) (hBn : Bn < w.heap.size)
    (hcB : w.cell? ⟨Bn, 0, none⟩ = some (.string ⟨s.toArray⟩)) (hMx : Mx F v mm w) (hv : v < w.heap.size) (hinv : ∀ k, Cs F v w k → k < w.heap.size) :
    SeqP m Tryd.prog 27 #[.pointer (some ⟨Bn, 0, none⟩)] tells (fun _ _ => True) (Kc F v) (fun xs => xs = allF s) (fun pre => pre <+: allF s) (s.length + 1) w := by
  intro l J Jx W hW hJ hY h0
  have k : Kc F v w W := Kc.of_below hW hv
  exact each2_in m hm l Bn s hs mm F v J Jx W hJ (fun pre x W1 h1 h3 h4 => hY pre x W1 h1 trivial h3 h4)
    ((hW.cell (p := ⟨Bn, 0, none⟩) hBn).trans hcB) ⟨h0, hMx.next k, Nat.lt_of_lt_of_le hv hW.size, k.inv hinv, Nat.le_refl _⟩
/-- Of a text that is too long. -/
def longT : Tl := ⟨zTk, 0, 0, 3⟩
set_option maxRecDepth 100000 in
set_option maxHeartbeats 2000000 in
theorem each1_in (m : Nat) (hm : 1 ≤ m) (l : Nat) (F : List Nat) (v : Nat) (J Jx : List Tl → World → Prop) (W0 : World)
    (hY : ∀ pre x W1, J pre W1 → pre ++ [x] <+: [longT] → pre.length < 2 → YieldAt Fence.wide (m - 1) Tryd.prog l (tells x) W1 fun e W' =>
      (e = .returned (.bool true) ∧ J (pre ++ [x]) W' ∧ Kc F v W1 W') ∨ (e = .returned (.bool false) ∧ Jx (pre ++ [x]) W'))
    (hJ0 : J [] W0) :
    CallsIn Fence.wide m Tryd.prog 26 #[.func (.yield l) #[] #[]] W0 fun e W' => (∃ v, e = .returned v) ∧
      ((∃ xs, xs = [longT] ∧ J xs W') ∨ (∃ pre, pre <+: [longT] ∧ Jx pre W')) := by
  refine callsIn_of_wp Tryd.func26 rfl trivial ?_ rfl
  simp only [Tryd.ntmps26, List.size_toArray, List.length_cons, List.length_nil, Nat.reduceAdd, Nat.reduceSub, Array.replicate_succ, Array.replicate_zero, List.push_toArray, List.append_toArray, List.nil_append, List.cons_append]
  obtain ⟨fn, tmps, assign, body, hy, hR⟩ := hY [] longT W0 hJ0 (List.prefix_refl _) (by simp)
  have hy' : (Instr.yield l #[.agg #[.int .i64 0, .int .i64 0, .int .i64 0, .string ⟨#[]⟩, .bool false], .agg #[.int .i64 0, .int .i64 0, .int .i64 3]]).run Tryd.prog W0 = .ok (.round l fn tmps assign body) W0 := hy
  clear hy
  gi_wp2_with fail
  refine hR.mono ?_
  rintro e W3 (⟨rfl, hJ3, hk3⟩ | ⟨rfl, hJx3⟩)
  · gi_wp2
    refine bodyPost_end (results_none rfl _ _ _) rfl ?_
    exact ⟨⟨_, rfl⟩, .inl ⟨_, rfl, hJ3⟩⟩
  · gi_wp2
    refine bodyPost_end (results_none rfl _ _ _) rfl ?_
    exact ⟨⟨_, rfl⟩, .inr ⟨_, List.prefix_refl _, hJx3⟩⟩
theorem each_long (m : Nat) (hm : 1 ≤ m) (F : List Nat) (v : Nat) (w : World) :
    SeqP m Tryd.prog 26 #[] tells (fun _ _ => True) (Kc F v) (fun xs => xs = [longT]) (fun pre => pre <+: [longT]) 2 w := by
  intro l J Jx W hW hJ hY h0
  exact each1_in m hm l F v J Jx W (fun pre x W1 h1 h3 h4 => hY pre x W1 h1 trivial h3 h4) h0
end Go.Proofs.YtjmgngocpokpgaaDoor
