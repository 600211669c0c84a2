import Derived.Test.YtmmnpnhffgpchaaGreatDoorBn11
import Derived.Test.YtmmnpnhffgpchaaGreatDoorBs4
import Derived.Test.YtmmnpnhffgpchaaGreatDoorBn36
/-
  A text's trees: the program's, the document's.
-/
namespace Go.Proofs.YtmmnpnhffgpchaaGreatDoor
open Go.RowKit
set_option linter.unusedVariables false
set_option linter.unusedSimpArgs false
set_option maxRecDepth 100000
/-- what is answered: trees and a fault -/
def outOf : Or → List Tr × Int × Int × Int
  | .ok ts => (ts, 0, 0, 0)
  | .bad d l e => ([], d, l, e)
theorem ofE_out {w w' : World} {R : Or} {e : Ending} {ts : List Tr} {d l er : Int} (h : OfE w R e w') (hR : outOf R = (ts, d, l, er)) :
    ∃ a c vs, e = .returned (.tuple #[.slice a ts.length c, .agg #[.int .i64 d, .int .i64 l, .int .i64 er]]) ∧ Ots w' w.heap.size (.slice a ts.length c) ts vs ∧ Below w.heap.size w w' := by
  cases R with
  | ok us =>
    cases hR
    obtain ⟨v, vs, he, ho, hb⟩ := h
    obtain ⟨a, c, rfl, _⟩ := own_form ho.row
    exact ⟨a, c, vs, he, ho, hb⟩
  | bad d' l' e' =>
    cases hR
    obtain ⟨he, hb⟩ := h
    exact ⟨none, 0, [], he, Ots.nil _ _, hb⟩
theorem endM_len {doc : List Tk} {acc ts : List Tr} (h : endM doc acc = .ok ts) : ts.length ≤ acc.length + 1 := by
  unfold endM at h
  split at h
  · cases h; omega
  · split at h
    · cases h; simp
    · cases h
theorem ofM_len : ∀ (L doc : List Tk) (acc ts : List Tr), ofM L doc acc = .ok ts → ts.length ≤ acc.length + L.length + 1
  | [], doc, acc, ts, h => by rw [ofM] at h; have := endM_len h; simp; omega
  | t :: L, doc, acc, ts, h => by
    rw [ofM] at h
    split at h
    · split at h
      · rename_i acc' he
        have h1 := endM_len he
        have h2 := ofM_len L [] acc' ts h
        simp; omega
      · cases h
    · have h2 := ofM_len L _ acc ts h
      simp; omega
theorem outOf_len {L : List Tk} {ts : List Tr} {d l er : Int} (h : outOf (ofM L [] []) = (ts, d, l, er)) : ts.length ≤ L.length + 1 := by
  cases hR : ofM L [] [] with
  | ok us =>
    rw [hR] at h
    cases h
    have := ofM_len L [] [] _ hR
    simpa using this
  | bad d' l' e' => rw [hR] at h; cases h; simp
/-- a token of the reader's, as the trees' -/
def conv (t : Ln.Tk) : Tk := ⟨t.kind, t.line, t.col, ⟨t.text.toArray⟩, t.q⟩
theorem conv_row (t : Ln.Tk) : (conv t).row = t.row := rfl
theorem rowsT_conv (T : List Ln.Tk) : rowsT (T.map conv) = T.flatMap Ln.Tk.row := by
  unfold rowsT
  rw [List.flatMap_map]
  rfl
/-- what a text comes to -/
def parM (l : List UInt8) : List Tr × Int × Int × Int := if (Ln.fltOf (Ln.scnF l)).2.2 = 0 then outOf (ofM ((Ln.toksOf (Ln.scnF l)).map conv) [] []) else ([], Ln.fltOf (Ln.scnF l))
theorem flt_zero {A : List Ln.Tl} (h : (Ln.fltOf A).2.2 = 0) : Ln.fltOf A = (0, 0, 0) := by
  unfold Ln.fltOf at h ⊢
  split
  · rename_i x hx
    rw [hx] at h
    have := List.find?_some hx
    simp at this
    exact absurd h this
  · rfl
theorem parM_len {l : List UInt8} {ts : List Tr} {d ln er : Int} (h : parM l = (ts, d, ln, er)) : ts.length ≤ 65538 := by
  unfold parM at h
  split at h
  · have h1 := outOf_len h
    have h2 := Ln.toks_few l
    simp at h1
    omega
  · have h1 := congrArg Prod.fst h
    dsimp only at h1
    rw [← h1]; simp
/-- tokens in a row of one's own -/
theorem own_toks {w : World} {base N cv e : Nat} {av : Option Addr} {T : List Ln.Tk} {m : Nat} (h : w.ownsRow base e 5 (.slice av N cv) N (T.flatMap Ln.Tk.row)) (hN : T.length = N) (hs : N ≤ 65537) (hm : Ln.Shrt m T) (hm2 : m ≤ 281474976710656) :
    Tp w av N cv (T.map conv) ∧ Ts w av (T.map conv) := by
  rw [← rowsT_conv] at h
  have hl : (T.map conv).length = N := by simp [hN]
  have hst : ∀ t ∈ T.map conv, t.tx.size ≤ 281474976710656 := fun t ht => by
    obtain ⟨x, hx, rfl⟩ := List.mem_map.1 ht
    have h1 := hm x hx
    show (ByteArray.mk x.text.toArray).size ≤ _
    have : (ByteArray.mk x.text.toArray).size = x.text.length := by simp [ByteArray.size]
    omega
  obtain ⟨a', cp, he, _, h1, h2⟩ := own_form h
  injection he with _ _ he3
  subst he3
  rcases Nat.eq_zero_or_pos N with h0 | h0
  · have hnil : T.map conv = [] := List.length_eq_zero_iff.1 (by omega)
    exact ⟨⟨hl, fun h => by omega⟩, ⟨fun t ht => Nat.le_trans (hst t ht) (by decide), .inl hnil⟩⟩
  · obtain ⟨g, rfl⟩ := own_some h h0
    have hcc : ∀ (i : Nat) (t : Tk), (T.map conv)[i]? = some t → ∀ (j : Nat) (u : Value), t.row[j]? = some u → w.cell? ⟨g, 0 + i * 5 + j, none⟩ = some u := fun i t hi j u hu => by
      have hi' := (List.getElem?_eq_some_iff.1 hi).1
      have hj : j < 5 := (List.getElem?_eq_some_iff.1 hu).1
      rw [Nat.zero_add, h.cellAt (i * 5 + j) (by omega)]
      exact rowsT_at _ i t hi j u hu
    exact ⟨⟨hl, fun _ => ⟨g, 0, rfl, ⟨hcc, hst, hl, by omega, by omega, h2, (h.lt g rfl).2, h0⟩⟩⟩, ⟨fun t ht => Nat.le_trans (hst t ht) (by decide), .inr ⟨g, 0, rfl, hcc⟩⟩⟩
set_option maxHeartbeats 8000000 in
theorem parse_any (w : World) (a : Option Addr) (n cap : Nat) (l : List UInt8) (hn : l.length = n) (hB : Ln.Has w a (Ln.zL l)) (hl : n ≤ 140737488351232) (hm : Ln.HasM w) (ts : List Tr) (d ln er : Int) (hP : parM l = (ts, d, ln, er)) :
    Calls Tryz.prog 5 #[.slice a n cap] w fun e w' => ∃ ta tc vs, e = .returned (.tuple #[.slice ta ts.length tc, .agg #[.int .i64 d, .int .i64 ln, .int .i64 er]]) ∧ Ots w' w.heap.size (.slice ta ts.length tc) ts vs ∧ Below w.heap.size w w' := by
  obtain ⟨T, hT⟩ : ∃ T, Ln.toksOf (Ln.scnF l) = T := ⟨_, rfl⟩
  obtain ⟨fd, fl, fe, hF⟩ : ∃ fd fl fe, Ln.fltOf (Ln.scnF l) = (fd, fl, fe) := ⟨_, _, _, rfl⟩
  obtain ⟨N, hN⟩ : ∃ N, T.length = N := ⟨_, rfl⟩
  have hNs : N ≤ 65537 := by rw [← hN, ← hT]; exact Ln.toks_few l
  have hw0 := hm.lt
  have hW0 : (w.alloc (.cells #[.int .i64 0, .int .i64 0, .int .i64 0] 27)).heap[w.heap.size]? = some (.cells #[.int .i64 0, .int .i64 0, .int .i64 0] 27 (0, 0)) := Go.heap_alloc_new _ _
  have hWb : Below w.heap.size w (w.alloc (.cells #[.int .i64 0, .int .i64 0, .int .i64 0] 27)) := (Below.refl _ w).alloc (Nat.le_refl _) _
  have hWs : w.heap.size + 1 ≤ (w.alloc (.cells #[.int .i64 0, .int .i64 0, .int .i64 0] 27)).heap.size := by simp
  obtain ⟨W, hW⟩ : ∃ W, w.alloc (.cells #[.int .i64 0, .int .i64 0, .int .i64 0] 27) = W := ⟨_, rfl⟩
  rw [hW] at hW0 hWb hWs
  have hSc := Ln.scan_call a n cap l W hn (hB.of_below hWb) (by unfold maxLen; omega) (hm.below hWb hw0) T fd fl fe N hN hT hF
  have HSH := hideL (hT ▸ Ln.toks_txt l)
  have HN := hideL hN
  have HP := hideL hP
  have HF := hideL hF
  have HT := hideL hT
  have HWB := hideL hWb
  have HW0 := hideL hW0
  have HWS := hideL hWs
  have Hn := hideL hn
  clear hT hN hP hF hB hm hWb hW0 hWs hn
  go_enter Tryz.func5, Tryz.ntmps5
  go_wp2_with fail
  refine hSc.mono ?_
  clear hSc hW
  rintro e w1 ⟨av, cv, rfl, hrow, -, hb⟩
  have hXb : Below w1.heap.size w1 (w1.alloc (Obj.cells #[.int .i64 fd, .int .i64 fl, .int .i64 fe] 27)) := (Below.refl _ w1).alloc (Nat.le_refl _) _
  have hXn : (w1.alloc (Obj.cells #[.int .i64 fd, .int .i64 fl, .int .i64 fe] 27)).heap[w1.heap.size]? = some (.cells #[.int .i64 fd, .int .i64 fl, .int .i64 fe] 27 (0, 0)) := Go.heap_alloc_new _ _
  obtain ⟨X, hX⟩ : ∃ X, w1.alloc (Obj.cells #[.int .i64 fd, .int .i64 fl, .int .i64 fe] 27) = X := ⟨_, rfl⟩
  rw [hX] at hXb hXn
  have HX := hideL hX
  have hrowX := own_blk' hrow (fun k hk => hXb.block k (hrow.lt k hk).2)
  have hbX : Below W.heap.size W X := hb.trans (hXb.mono hb.size)
  have hP0 := (hbX.block w.heap.size HWS.out).trans HW0.out
  have hbw : Below w.heap.size w X := HWB.out.trans (hbX.mono HWB.out.size)
  have hPX : w.heap.size < X.heap.size := (Array.getElem?_eq_some_iff.1 hP0).1
  have hNX : w1.heap.size < X.heap.size := (Array.getElem?_eq_some_iff.1 hXn).1
  have hPN : w.heap.size ≠ w1.heap.size := by have := hb.size; have := HWS.out; omega
  have n0 : X.cell? ⟨w1.heap.size, 0, none⟩ = some (.int .i64 fd) := by rw [cell_block hXn]; rfl
  have n1 : X.cell? ⟨w1.heap.size, 1, none⟩ = some (.int .i64 fl) := by rw [cell_block hXn]; rfl
  have n2 : X.cell? ⟨w1.heap.size, 2, none⟩ = some (.int .i64 fe) := by rw [cell_block hXn]; rfl
  by_cases hfe : fe = 0
  · subst hfe
    have hz := flt_zero (A := Ln.scnF l) (by rw [HF.out])
    rw [HF.out] at hz
    cases hz
    have hpp := HP.out
    unfold parM at hpp
    rw [HF.out] at hpp
    dsimp only at hpp
    rw [if_pos rfl, HT.out] at hpp
    obtain ⟨hTp, hTs⟩ := own_toks hrowX HN.out hNs HSH.out (by have := Hn.out; omega)
    have hOf := of_any X av N cv (T.map conv) hTp (by omega)
    have HPP := hideL hpp
    have HBW := hideL hbw
    have HP0 := hideL hP0
    clear hpp hbw hP0 hrowX hrow hXb hXn hX hbX hb hTp hTs
    go_wp2_with fail
    rw [HX.out]
    refine hOf.mono ?_
    clear hOf
    intro e w3 hE
    obtain ⟨ta, tc, vs, rfl, hot, hb3⟩ := ofE_out hE HPP.out
    have hP3 := (hb3.block w.heap.size hPX).trans HP0.out
    obtain ⟨⟨r1, r2, r3⟩, ⟨r4, r5, r6⟩, r7, r8⟩ := set3t hP3 (.int .i64 d) (.int .i64 ln) (.int .i64 er)
    have HR7 := hideL r7
    have HR8 := hideL r8
    have HOT := hideL hot
    have HB3 := hideL hb3
    obtain ⟨M, hM⟩ : ∃ M, ts.length = M := ⟨_, rfl⟩
    rw [hM] at HOT ⊢
    have HM := hideL hM
    clear r7 r8 hot hb3 hP3 hE hM
    go_wp2_with fail
    obtain ⟨Y, hY⟩ : ∃ Y, ((w3.setCell ⟨w.heap.size, 0, none⟩ (.int .i64 d)).setCell ⟨w.heap.size, 1, none⟩ (.int .i64 ln)).setCell ⟨w.heap.size, 2, none⟩ (.int .i64 er) = Y := ⟨_, rfl⟩
    have hr7 := HR7.out
    have hr8 := HR8.out
    rw [hY] at hr7 hr8 ⊢
    have c0 : Y.cell? ⟨w.heap.size, 0, none⟩ = some (.int .i64 d) := by rw [cell_block hr7]; rfl
    have c1 : Y.cell? ⟨w.heap.size, 1, none⟩ = some (.int .i64 ln) := by rw [cell_block hr7]; rfl
    have c2 : Y.cell? ⟨w.heap.size, 2, none⟩ = some (.int .i64 er) := by rw [cell_block hr7]; rfl
    refine bodyPost_ret (v := .tuple #[.slice ta M tc, .agg #[.int .i64 d, .int .i64 ln, .int .i64 er]]) (by simp [results, Tryz.results5, go_sem, c0, c1, c2]) rfl ?_
    have hxs := HBW.out.size
    have hM := HM.out
    subst hM
    refine ⟨ta, tc, vs, rfl, (HOT.out.keep fun k h1 h2 => hr8.block k h2 (by omega)).low hxs, ?_⟩
    exact (HBW.out.trans (HB3.out.mono hxs)).trans (hr8.below (Nat.le_trans hxs HB3.out.size) (Nat.le_refl _))
  · have hE : (fe == 0) = false := by rw [beq_eq_false_iff_ne]; exact hfe
    have hpp := HP.out
    unfold parM at hpp
    rw [HF.out] at hpp
    dsimp only at hpp
    rw [if_neg hfe] at hpp
    cases hpp
    obtain ⟨⟨r1, r2, r3⟩, ⟨r4, r5, r6⟩, r7, r8⟩ := set3t hP0 (.int .i64 d) (.int .i64 ln) (.int .i64 er)
    have HR7 := hideL r7
    have HR8 := hideL r8
    have HBW := hideL hbw
    clear r7 r8 hbw hP0 hrowX hrow hXb hXn hX hbX hb hfe
    go_wp2_with fail
    rw [HX.out]
    go_region
    all_goals
      go_wp2_with fail
      obtain ⟨Y, hY⟩ : ∃ Y, ((X.setCell ⟨w.heap.size, 0, none⟩ (.int .i64 d)).setCell ⟨w.heap.size, 1, none⟩ (.int .i64 ln)).setCell ⟨w.heap.size, 2, none⟩ (.int .i64 er) = Y := ⟨_, rfl⟩
      have hr7 := HR7.out
      have hr8 := HR8.out
      rw [hY] at hr7 hr8 ⊢
      have c0 : Y.cell? ⟨w.heap.size, 0, none⟩ = some (.int .i64 d) := by rw [cell_block hr7]; rfl
      have c1 : Y.cell? ⟨w.heap.size, 1, none⟩ = some (.int .i64 ln) := by rw [cell_block hr7]; rfl
      have c2 : Y.cell? ⟨w.heap.size, 2, none⟩ = some (.int .i64 er) := by rw [cell_block hr7]; rfl
      refine bodyPost_ret (v := .tuple #[.slice none 0 0, .agg #[.int .i64 d, .int .i64 ln, .int .i64 er]]) (by simp [results, Tryz.results5, go_sem, c0, c1, c2]) rfl ?_
      exact ⟨none, 0, [], rfl, Ots.nil _ _, below_drewN (HBW.out.trans (hr8.below HBW.out.size (Nat.le_refl _))) 1⟩
set_option maxHeartbeats 8000000 in
theorem rparse_any (w : World) (a : Option Addr) (n cap : Nat) (l : List UInt8) (hn : l.length = n) (hB : Ln.Has w a (Ln.zL l)) (hl : n ≤ 140737488351232) (hcap : n ≤ cap) (ts : List Tr) (d ln er : Int) (hP : parM l = (ts, d, ln, er)) :
    Calls Tryz.prog 6 #[.slice a n cap] w fun e w' => ∃ ta tc vs, e = .returned (.tuple #[.slice ta ts.length tc, .agg #[.int .i64 d, .int .i64 ln, .int .i64 er]]) ∧ Ots w' w.heap.size (.slice ta ts.length tc) ts vs ∧ Below w.heap.size w w' := by
  obtain ⟨T, hT⟩ : ∃ T, Ln.toksOf (Ln.scnF l) = T := ⟨_, rfl⟩
  obtain ⟨fd, fl, fe, hF⟩ : ∃ fd fl fe, Ln.fltOf (Ln.scnF l) = (fd, fl, fe) := ⟨_, _, _, rfl⟩
  obtain ⟨N, hN⟩ : ∃ N, T.length = N := ⟨_, rfl⟩
  have hNs : N ≤ 65537 := by rw [← hN, ← hT]; exact Ln.toks_few l
  have hW0 : (w.alloc (.cells #[.int .i64 0, .int .i64 0, .int .i64 0] 31)).heap[w.heap.size]? = some (.cells #[.int .i64 0, .int .i64 0, .int .i64 0] 31 (0, 0)) := Go.heap_alloc_new _ _
  have hWb : Below w.heap.size w (w.alloc (.cells #[.int .i64 0, .int .i64 0, .int .i64 0] 31)) := (Below.refl _ w).alloc (Nat.le_refl _) _
  have hWs : w.heap.size + 1 ≤ (w.alloc (.cells #[.int .i64 0, .int .i64 0, .int .i64 0] 31)).heap.size := by simp
  obtain ⟨W, hW⟩ : ∃ W, w.alloc (.cells #[.int .i64 0, .int .i64 0, .int .i64 0] 31) = W := ⟨_, rfl⟩
  rw [hW] at hW0 hWb hWs
  obtain ⟨T0, hT0⟩ : ∃ T, Ln.preT (Ln.scnF l) = T := ⟨_, rfl⟩
  obtain ⟨N0, hN0⟩ : ∃ N, T0.length = N := ⟨_, rfl⟩
  have hSc := Ln.rscan_any a n cap l W hn (hB.of_below hWb) (by unfold maxLen; omega) hcap T0 fd fl fe N0 hN0 hT0 hF
  have HTT : Hid (fe = 0 → T0 = T ∧ N0 = N) := fun h => by
    have := Ln.tok_pre (Ln.scnF l) (by rw [hF]; exact h)
    rw [hT, hT0] at this
    exact ⟨this.symm, by rw [← hN0, ← hN, this]⟩
  have HSH := hideL (hT ▸ Ln.toks_txt l)
  have HN := hideL hN
  have HP := hideL hP
  have HF := hideL hF
  have HT := hideL hT
  have HWB := hideL hWb
  have HW0 := hideL hW0
  have HWS := hideL hWs
  have Hn := hideL hn
  clear hT hN hP hF hB hWb hW0 hWs hn hT0 hN0
  go_enter Tryz.func6, Tryz.ntmps6
  go_wp2_with fail
  refine hSc.mono ?_
  clear hSc hW
  rintro e w1 ⟨av, cv, rfl, hrow, -, hb⟩
  have hXb : Below w1.heap.size w1 (w1.alloc (Obj.cells #[.int .i64 fd, .int .i64 fl, .int .i64 fe] 31)) := (Below.refl _ w1).alloc (Nat.le_refl _) _
  have hXn : (w1.alloc (Obj.cells #[.int .i64 fd, .int .i64 fl, .int .i64 fe] 31)).heap[w1.heap.size]? = some (.cells #[.int .i64 fd, .int .i64 fl, .int .i64 fe] 31 (0, 0)) := Go.heap_alloc_new _ _
  obtain ⟨X, hX⟩ : ∃ X, w1.alloc (Obj.cells #[.int .i64 fd, .int .i64 fl, .int .i64 fe] 31) = X := ⟨_, rfl⟩
  rw [hX] at hXb hXn
  have HX := hideL hX
  have hrowX := own_blk' hrow (fun k hk => hXb.block k (hrow.lt k hk).2)
  have hbX : Below W.heap.size W X := hb.trans (hXb.mono hb.size)
  have hP0 := (hbX.block w.heap.size HWS.out).trans HW0.out
  have hbw : Below w.heap.size w X := HWB.out.trans (hbX.mono HWB.out.size)
  have hPX : w.heap.size < X.heap.size := (Array.getElem?_eq_some_iff.1 hP0).1
  have hNX : w1.heap.size < X.heap.size := (Array.getElem?_eq_some_iff.1 hXn).1
  have hPN : w.heap.size ≠ w1.heap.size := by have := hb.size; have := HWS.out; omega
  have n0 : X.cell? ⟨w1.heap.size, 0, none⟩ = some (.int .i64 fd) := by rw [cell_block hXn]; rfl
  have n1 : X.cell? ⟨w1.heap.size, 1, none⟩ = some (.int .i64 fl) := by rw [cell_block hXn]; rfl
  have n2 : X.cell? ⟨w1.heap.size, 2, none⟩ = some (.int .i64 fe) := by rw [cell_block hXn]; rfl
  by_cases hfe : fe = 0
  · subst hfe
    obtain ⟨hTT, hNN⟩ := HTT.out rfl
    subst hTT hNN
    have hz := flt_zero (A := Ln.scnF l) (by rw [HF.out])
    rw [HF.out] at hz
    cases hz
    have hpp := HP.out
    unfold parM at hpp
    rw [HF.out] at hpp
    dsimp only at hpp
    rw [if_pos rfl, HT.out] at hpp
    obtain ⟨hTp, hTs⟩ := own_toks hrowX HN.out hNs HSH.out (by have := Hn.out; omega)
    have hOf := rof_any X av N0 cv (T0.map conv) (by simp; exact HN.out) (by omega) hTs
    have HPP := hideL hpp
    have HBW := hideL hbw
    have HP0 := hideL hP0
    clear hpp hbw hP0 hrowX hrow hXb hXn hX hbX hb hTp hTs
    go_wp2_with fail
    rw [HX.out]
    refine hOf.mono ?_
    clear hOf
    intro e w3 hE
    obtain ⟨ta, tc, vs, rfl, hot, hb3⟩ := ofE_out hE HPP.out
    have hza : Below w3.heap.size w3 (w3.alloc (Obj.cells #[.int .i64 d, .int .i64 ln, .int .i64 er] 31)) := (Below.refl _ w3).alloc (Nat.le_refl _) _
    have hzn : (w3.alloc (Obj.cells #[.int .i64 d, .int .i64 ln, .int .i64 er] 31)).heap[w3.heap.size]? = some (.cells #[.int .i64 d, .int .i64 ln, .int .i64 er] 31 (0, 0)) := Go.heap_alloc_new _ _
    obtain ⟨Z, hZ⟩ : ∃ Z, w3.alloc (Obj.cells #[.int .i64 d, .int .i64 ln, .int .i64 er] 31) = Z := ⟨_, rfl⟩
    rw [hZ] at hza hzn
    have HZ := hideL hZ
    have hbZ : Below X.heap.size X Z := hb3.trans (hza.mono hb3.size)
    have hP3 := (hbZ.block w.heap.size hPX).trans HP0.out
    have z0 : Z.cell? ⟨w3.heap.size, 0, none⟩ = some (.int .i64 d) := by rw [cell_block hzn]; rfl
    have z1 : Z.cell? ⟨w3.heap.size, 1, none⟩ = some (.int .i64 ln) := by rw [cell_block hzn]; rfl
    have z2 : Z.cell? ⟨w3.heap.size, 2, none⟩ = some (.int .i64 er) := by rw [cell_block hzn]; rfl
    obtain ⟨⟨r1, r2, r3⟩, ⟨r4, r5, r6⟩, r7, r8⟩ := set3t hP3 (.int .i64 d) (.int .i64 ln) (.int .i64 er)
    have HR7 := hideL r7
    have HR8 := hideL r8
    have HOT := hideL (hot.below hza)
    have HB3 := hideL hbZ
    obtain ⟨M, hM⟩ : ∃ M, ts.length = M := ⟨_, rfl⟩
    rw [hM] at HOT ⊢
    have HM := hideL hM
    clear r7 r8 hot hb3 hP3 hE hM hza hzn hZ hbZ
    go_wp2_with fail
    rw [HZ.out]
    go_region
    all_goals
      go_wp2_with fail
      obtain ⟨Y, hY⟩ : ∃ Y, ((Z.setCell ⟨w.heap.size, 0, none⟩ (.int .i64 d)).setCell ⟨w.heap.size, 1, none⟩ (.int .i64 ln)).setCell ⟨w.heap.size, 2, none⟩ (.int .i64 er) = Y := ⟨_, rfl⟩
      have hr7 := HR7.out
      have hr8 := HR8.out
      rw [hY] at hr7 hr8 ⊢
      have c0 : Y.cell? ⟨w.heap.size, 0, none⟩ = some (.int .i64 d) := by rw [cell_block hr7]; rfl
      have c1 : Y.cell? ⟨w.heap.size, 1, none⟩ = some (.int .i64 ln) := by rw [cell_block hr7]; rfl
      have c2 : Y.cell? ⟨w.heap.size, 2, none⟩ = some (.int .i64 er) := by rw [cell_block hr7]; rfl
      refine bodyPost_ret (v := .tuple #[.slice ta M tc, .agg #[.int .i64 d, .int .i64 ln, .int .i64 er]]) (by simp [results, Tryz.results6, go_sem, c0, c1, c2]) rfl ?_
      have hxs := HBW.out.size
      have hM := HM.out
      subst hM
      refine ⟨ta, tc, vs, rfl, ((HOT.out.keep fun k h1 h2 => hr8.block k h2 (by omega)).low hxs).below (below_drewN (Below.refl _ _) 1), ?_⟩
      exact below_drewN ((HBW.out.trans (HB3.out.mono hxs)).trans (hr8.below (Nat.le_trans hxs HB3.out.size) (Nat.le_refl _))) 1
  · have hE : (fe == 0) = false := by rw [beq_eq_false_iff_ne]; exact hfe
    have hpp := HP.out
    unfold parM at hpp
    rw [HF.out] at hpp
    dsimp only at hpp
    rw [if_neg hfe] at hpp
    cases hpp
    obtain ⟨⟨r1, r2, r3⟩, ⟨r4, r5, r6⟩, r7, r8⟩ := set3t hP0 (.int .i64 d) (.int .i64 ln) (.int .i64 er)
    have HR7 := hideL r7
    have HR8 := hideL r8
    have HBW := hideL hbw
    clear r7 r8 hbw hP0 hrowX hrow hXb hXn hX hbX hb hfe
    go_wp2_with fail
    rw [HX.out]
    go_region
    all_goals
      go_wp2_with fail
      obtain ⟨Y, hY⟩ : ∃ Y, ((X.setCell ⟨w.heap.size, 0, none⟩ (.int .i64 d)).setCell ⟨w.heap.size, 1, none⟩ (.int .i64 ln)).setCell ⟨w.heap.size, 2, none⟩ (.int .i64 er) = Y := ⟨_, rfl⟩
      have hr7 := HR7.out
      have hr8 := HR8.out
      rw [hY] at hr7 hr8 ⊢
      have c0 : Y.cell? ⟨w.heap.size, 0, none⟩ = some (.int .i64 d) := by rw [cell_block hr7]; rfl
      have c1 : Y.cell? ⟨w.heap.size, 1, none⟩ = some (.int .i64 ln) := by rw [cell_block hr7]; rfl
      have c2 : Y.cell? ⟨w.heap.size, 2, none⟩ = some (.int .i64 er) := by rw [cell_block hr7]; rfl
      refine bodyPost_ret (v := .tuple #[.slice none 0 0, .agg #[.int .i64 d, .int .i64 ln, .int .i64 er]]) (by simp [results, Tryz.results6, go_sem, c0, c1, c2]) rfl ?_
      exact ⟨none, 0, [], rfl, Ots.nil _ _, below_drewN (HBW.out.trans (hr8.below HBW.out.size (Nat.le_refl _))) 1⟩
end Go.Proofs.YtmmnpnhffgpchaaGreatDoor
