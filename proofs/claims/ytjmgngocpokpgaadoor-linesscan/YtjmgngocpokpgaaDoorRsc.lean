/-
  The document's own scan.
-/
import Derived.Test.YtjmgngocpokpgaaDoorRsm
import Derived.Test.YtjmgngocpokpgaaDoorLin
import Derived.Laws.AppendOwnNone
namespace Go.Proofs.YtjmgngocpokpgaaDoor
open Go.RowKit
set_option linter.unusedVariables false
set_option linter.unusedSimpArgs false
theorem row_cell3 {w : World} {B g N c : Nat} {t : Tk} {ts : List Tk} (h : w.ownsRow B 40 5 (.slice (some ⟨g, 0, none⟩) N c) N ((t :: ts).flatMap Tk.row)) : w.cell? ⟨g, 0, none⟩ = some (.int .i64 t.kind) ∧ w.cell? ⟨g, 3, none⟩ = some (.string ⟨t.text.toArray⟩) ∧ w.cell? ⟨g, 4, none⟩ = some (.bool t.q) :=
  ⟨h.cells rfl 0 _ rfl, h.cells rfl 3 _ rfl, h.cells rfl 4 _ rfl⟩
/-- What the lines' loop keeps: the fault's place, the lines, the tokens. -/
structure Rs (w wr : World) (A : List Tl) (vL : Value) (Ls : List (List UInt8)) (v : Value) (T : List Tk) (k docs m : Nat) (r : List UInt8) (L : Nat) : Prop where
  flt : wr.heap[w.heap.size]? = some (.cells #[.int .i64 0, .int .i64 0, .int .i64 0] 25 (0, 0))
  lns : wr.ownsRow w.heap.size 9 1 vL Ls.length (strs Ls)
  row : wr.ownsRow w.heap.size 40 5 v T.length (T.flatMap Tk.row)
  bel : Below w.heap.size w wr
  goes : A = T.map okT ++ linF (m + 1) r (k + 1) docs
  left : lsF (m + 1) r = Ls.drop k
  fuel : r.length < m + 1
  few : T.length + r.length ≤ L
  docs : docs ≤ T.length
theorem Rs.line {w wr w2 : World} {A : List Tl} {vL : Value} {Ls : List (List UInt8)} {v : Value} {T : List Tk} {k docs m : Nat} {r : List UInt8} {L : Nat} (h : Rs w wr A vL Ls v T k docs m r L) (hb : Below wr.heap.size wr w2) : Rs w w2 A vL Ls v T k docs m r L :=
  ⟨(hb.block _ (Array.getElem?_eq_some_iff.1 h.flt).1).trans h.flt, own_blk h.lns (fun q hq => hb.block q (h.lns.lt q hq).2), own_blk h.row (fun q hq => hb.block q (h.row.lt q hq).2), h.bel.trans (hb.mono h.bel.size), h.goes, h.left, h.fuel, h.few, h.docs⟩
/-- The next line's tokens behind the others. -/
theorem Rs.next {w w2 w3 : World} {A : List Tl} {vL : Value} {Ls : List (List UInt8)} {v v3 : Value} {T ts : List Tk} {k docs m : Nat} {r b x : List UInt8} {L : Nat} (h : Rs w w2 A vL Ls v T k docs (m + 1) r L)
    (hR : readF x ((k + 1 : Nat) : Int) = (ts, 0)) (hx : Ls[k]? = some x) (hl : lsF (m + 1) b = Ls.drop (k + 1)) (hbm : b.length < m + 1) (hbl : b.length + x.length ≤ r.length)
    (hlin : linF (m + 2) r (k + 1) docs = ts.map okT ++ linF (m + 1) b (k + 1 + 1) (docs + docN ts))
    (hown : w3.ownsRow w.heap.size 40 5 v3 (T ++ ts).length ((T ++ ts).flatMap Tk.row)) (hg : w2.grownBy w3 v.ownBlock) (d' : Nat) (hd : d' = docs + docN ts) : Rs w w3 A vL Ls v3 (T ++ ts) (k + 1) d' m b L := by
  subst hd
  have hs := h.bel.size
  have hF := (Array.getElem?_eq_some_iff.1 h.flt).1
  have hne : ∀ q, (∃ c t fr, w2.heap[q]? = some (.cells c t fr) ∧ t ≠ 40) → some q ≠ v.ownBlock := by
    rintro q ⟨c, t, fr, hq, ht⟩ e
    obtain ⟨cur, hc⟩ := own_cells h.row q e.symm
    rw [hq] at hc
    cases hc
    exact ht rfl
  have hts := readF_few x ((k + 1 : Nat) : Int)
  rw [hR] at hts
  have hdn := docN_le ts
  have hdc := h.docs
  have hfe := h.few
  refine ⟨?_, ?_, hown, h.bel.grown hg hs (fun q hq => (h.row.lt q hq).1), ?_, hl, hbm, ?_, ?_⟩
  · rw [hg.block _ hF (hne _ ⟨_, _, _, h.flt, by decide⟩)]
    exact h.flt
  · refine own_blk h.lns (fun q hq => hg.block q (h.lns.lt q hq).2 (hne q ?_))
    obtain ⟨cur, hc⟩ := own_cells h.lns q hq
    exact ⟨_, _, _, hc, by decide⟩
  · rw [h.goes, hlin, List.map_append, List.append_assoc]
  · dsimp only at hts
    rw [List.length_append]
    omega
  · rw [List.length_append]
    omega
theorem wpList_append_rows {P : Program} (w : World) {ops : Array Oper} {rest : List Oper} {o : Oper} {a : Act} {Q : Exit → Act → World → Prop} (hgd : o.guard = none) (s x : Operand) (t : TypeId)
    (ho : o.op = .call { callee := .builtin .append, args := #[s, x], argTypes := #[t, t] })
    (base : Nat) (e : TypeId) (i : TypeInfo) (z : Value) (size bytes : Nat) (ht : P.underlying t = some (.slice e)) (hi : P.info? e = some i) (hz : i.zero = some z)
    (hsize : i.size = size) (hby : i.bytes = bytes) (hzs : z.cells.size = size) (hsz : 0 < size)
    (v : Value) (n : Nat) (xs : List Value) (hs : a.eval s = v) (hown : w.ownsRow base e size v n xs)
    (base2 : Nat) (v2 : Value) (m : Nat) (ys : List Value) (hx : a.eval x = v2) (hown2 : w.ownsRow base2 e size v2 m ys) (h1 : ∀ u ∈ ys, u.oneCell' = true)
    (h63 : n + m ≤ maxLen) (hbytes : (n + m) * bytes ≤ 140737488355328) (hbase : base ≤ w.heap.size)
    (h : ∀ v' w', w'.ownsRow base e size v' (n + m) (xs ++ ys) → w.grownBy w' v.ownBlock → wpList P ops Q rest (a.put o.dst v') w') : wpList P ops Q (o :: rest) a w := by
  rcases hown2.2 with ⟨rfl, rfl⟩ | ⟨g, cap, cur, rfl, _⟩
  · have hy : ys = [] := List.length_eq_zero_iff.1 (by simpa using hown2.1)
    subst hy
    refine wpList_append_own_none hgd s x t ho base e i size ht hi v n xs hs hown hx ?_
    refine h v w ?_ ⟨rfl, rfl, rfl, Nat.le_refl _, fun _ _ _ => rfl⟩
    rw [List.append_nil]
    exact hown
  · exact wpList_append_own w hgd s x t ho base e i z size bytes ht hi hz hsize hby hzs hsz v n xs hs hown ⟨g, 0, none⟩ m cap ys hx hown2.1 (fun j u hj => hown2.cells rfl j u hj) h1 h63 hbytes hbase (fun v' w' ho' hg _ => h v' w' ho' hg)
theorem rs_begin {w w1 : World} {l : List UInt8} {vL : Value} {A : List Tl} (hA : A = linF (l.length + 1) l 1 0) (hL : w1.ownsRow (w.alloc (.cells #[.int .i64 0, .int .i64 0, .int .i64 0] 25 (0, 0))).heap.size 9 1 vL (lsF (l.length + 1) l).length (strs (lsF (l.length + 1) l)))
    (hb : Below (w.alloc (.cells #[.int .i64 0, .int .i64 0, .int .i64 0] 25 (0, 0))).heap.size (w.alloc (.cells #[.int .i64 0, .int .i64 0, .int .i64 0] 25 (0, 0))) w1) : Rs w w1 A vL (lsF (l.length + 1) l) (.slice none 0 0) [] 0 0 l.length l l.length := by
  have hz : (w.alloc (.cells #[.int .i64 0, .int .i64 0, .int .i64 0] 25 (0, 0))).heap.size = w.heap.size + 1 := by simp
  refine ⟨?_, own_low hL (by omega), World.ownsRow_nil _ _ _ _, ?_, by rw [hA]; rfl, by simp, by omega, by simp, by simp⟩
  · rw [hb.block _ (by omega)]
    exact Go.heap_alloc_new w _
  · exact ((Below.refl _ w).alloc (Nat.le_refl _) _).trans (hb.mono (by omega))
theorem rs_cells {w wr : World} {A : List Tl} {aL : Option Addr} {NL cL : Nat} {Ls : List (List UInt8)} {v : Value} {T : List Tk} {k docs m : Nat} {r : List UInt8} {L : Nat} (h : Rs w wr A (.slice aL NL cL) Ls v T k docs m r L) {x : List UInt8} (hx : Ls[k]? = some x) : ∃ g, aL = some ⟨g, 0, none⟩ ∧ wr.cell? ⟨g, k, none⟩ = some (.string ⟨x.toArray⟩) ∧ k < NL := by
  have hk := (List.getElem?_eq_some_iff.1 hx).1
  rcases h.lns.2 with ⟨h1, h2⟩ | ⟨g, cap, cur, h1, _⟩
  · omega
  · injection h1 with ha hn _
    subst ha
    have hc := h.lns.cells (g := g) rfl k (.string ⟨x.toArray⟩) (by simp [strs, hx])
    have he : (⟨g, 0, none⟩ : Addr).add k = ⟨g, k, none⟩ := by unfold Addr.add; split <;> simp_all
    rw [he] at hc
    exact ⟨g, rfl, hc, by omega⟩
theorem flt_cells {w : World} {F : Nat} (h : w.heap[F]? = some (.cells #[.int .i64 0, .int .i64 0, .int .i64 0] 25 (0, 0))) : w.cell? ⟨F, 0, none⟩ = some (.int .i64 0) ∧ w.cell? ⟨F, 1, none⟩ = some (.int .i64 0) ∧ w.cell? ⟨F, 2, none⟩ = some (.int .i64 0) ∧ w.frozen? ⟨F, 0, none⟩ = false ∧ w.frozen? ⟨F, 1, none⟩ = false ∧ w.frozen? ⟨F, 2, none⟩ = false :=
  ⟨cell_of h 0 _ rfl, cell_of h 1 _ rfl, cell_of h 2 _ rfl, by simp [World.frozen?, h], by simp [World.frozen?, h], by simp [World.frozen?, h]⟩
theorem ls_few : ∀ (m : Nat) (r : List UInt8), (lsF m r).length ≤ r.length
  | 0, r => by simp [lsF]
  | m + 1, r => by
    rw [lsF]
    split
    · simp
    · rename_i hr
      have h1 := cut10 r hr
      have h2 := ls_few m (Lib.cut r [10]).2.1
      rw [List.length_cons]
      omega
theorem rs_fin {w wr : World} {A : List Tl} {vL : Value} {Ls : List (List UInt8)} {v : Value} {T T0 : List Tk} {k docs m N0 : Nat} {r : List UInt8} {L : Nat} (h : Rs w wr A vL Ls v T k docs m r L) (hT : T = T0) (hN : T0.length = N0) (x y z : Value) (fd fl fe : Int) (e : Value) (he : e = .agg #[.int .i64 fd, .int .i64 fl, .int .i64 fe]) :
    ∃ av cv, Ending.returned (.tuple #[v, e]) = .returned (.tuple #[.slice av N0 cv, .agg #[.int .i64 fd, .int .i64 fl, .int .i64 fe]]) ∧ (((wr.setCell ⟨w.heap.size, 0, none⟩ x).setCell ⟨w.heap.size, 1, none⟩ y).setCell ⟨w.heap.size, 2, none⟩ z).ownsRow w.heap.size 40 5 (.slice av N0 cv) N0 (T0.flatMap Tk.row) ∧ (0 < N0 → ∃ g, av = some ⟨g, 0, none⟩) ∧ Below w.heap.size w (((wr.setCell ⟨w.heap.size, 0, none⟩ x).setCell ⟨w.heap.size, 1, none⟩ y).setCell ⟨w.heap.size, 2, none⟩ z) := by
  subst hT hN he
  obtain ⟨av, cv, rfl, hav⟩ := own_sh h.row
  refine ⟨av, cv, rfl, ?_, hav, ((h.bel.setCell (Nat.le_refl _) _).setCell (Nat.le_refl _) _).setCell (Nat.le_refl _) _⟩
  refine own_blk h.row (fun q hq => ?_)
  obtain ⟨cur, hc⟩ := own_cells h.row q hq
  have hne : q ≠ w.heap.size := by
    intro e
    subst e
    rw [h.flt] at hc
    cases hc
  rw [Below.heap_setCell _ _ _ _ hne, Below.heap_setCell _ _ _ _ hne, Below.heap_setCell _ _ _ _ hne]
theorem few_le {w wr : World} {A : List Tl} {vL : Value} {Ls : List (List UInt8)} {v : Value} {T : List Tk} {k docs m : Nat} {r : List UInt8} {L : Nat} (h : Rs w wr A vL Ls v T k docs m r L) : T.length ≤ L ∧ docs ≤ L ∧ r.length ≤ L := by
  have := h.few
  have := h.docs
  omega
set_option maxRecDepth 100000 in
set_option maxHeartbeats 8000000 in
theorem rscan_any (a : Option Addr) (n cap : Nat) (l : List UInt8) (w : World) (hn : l.length = n) (hB : Has w a (zL l)) (hl : n ≤ maxLen) (hcap : n ≤ cap) (T0 : List Tk) (fd fl fe : Int) (N0 : Nat) (hN0 : T0.length = N0) (hT0 : preT (scnF l) = T0) (hF0 : fltOf (scnF l) = (fd, fl, fe)) :
    Calls Tryd.prog 9 #[.slice a n cap] w fun e w' => ∃ av cv, e = .returned (.tuple #[.slice av N0 cv, .agg #[.int .i64 fd, .int .i64 fl, .int .i64 fe]]) ∧ w'.ownsRow w.heap.size 40 5 (.slice av N0 cv) N0 (T0.flatMap Tk.row) ∧ (0 < N0 → ∃ g, av = some ⟨g, 0, none⟩) ∧ Below w.heap.size w w' := by
  obtain ⟨i40, hi40, hy0, hy1, hy2⟩ := info_parts Tryd.info40
  have HN0 := hide2 hN0
  have HT0 := hide2 hT0
  have HF0 := hide2 hF0
  clear hN0 hT0 hF0
  have hl' : (n : Int) ≤ 9223372036854775807 := by unfold maxLen at hl; omega
  by_cases hlong : 65536 < n
  · have HS : Hid (scnF l = [longT]) := by show _ = _; unfold scnF; rw [if_pos (by omega)]
    have hlong' : (65536 : Int) < n := by omega
    clear hB
    go_enter Tryd.func9, Tryd.ntmps9
    go_wp2
    refine bodyPost_ret (v := .tuple #[.slice none 0 0, .agg #[.int .i64 0, .int .i64 0, .int .i64 3]]) (by simp [results, Tryd.results9, go_sem]) rfl ?_
    have h1 := preT_bad longT (by decide)
    have h2 := HT0.out
    have h3 := HF0.out
    rw [HS.out] at h2 h3
    rw [h1.1] at h2
    rw [h1.2] at h3
    subst h2
    have h4 := HN0.out
    simp at h4
    subst h4
    cases h3
    exact ⟨none, 0, rfl, World.ownsRow_nil _ _ _ _, fun h => by omega, (Below.refl _ w).alloc (Nat.le_refl _) _⟩
  · have HS : Hid (scnF l = linF (l.length + 1) l 1 0) := by show _ = _; unfold scnF; rw [if_neg (by omega)]; rfl
    have hlong' : ¬ (65536 : Int) < n := by omega
    have HB := hide2 hB
    have HN := hide2 hn
    clear hB hn
    have c22 := lines_ref a n cap l (w.alloc (.cells #[.int .i64 0, .int .i64 0, .int .i64 0] 25 (0, 0))) HN.out (HB.out.of_below ((Below.refl _ w).alloc (Nat.le_refl _) _)) (by omega) hcap
    go_enter Tryd.func9, Tryd.ntmps9
    go_wp2_with (go_at_call 22; refine c22.mono ?_; rintro e w1 ⟨vL, rfl, hLs, hb1⟩; have HLs := hide2 hLs; have HB1 := hide2 hb1; clear hLs hb1)
    have HRS := hide2 (rs_begin HS.out HLs.out HB1.out)
    obtain ⟨Ls, hLs⟩ : ∃ L, lsF (l.length + 1) l = L := ⟨_, rfl⟩
    obtain ⟨NL, hNL⟩ : ∃ N, Ls.length = N := ⟨_, rfl⟩
    have HNL := hide2 hNL
    have hsh : ∃ aL cL, vL = .slice aL NL cL := by
      have := own_sh HLs.out
      rw [hLs, hNL] at this
      obtain ⟨aL, cL, h, _⟩ := this
      exact ⟨aL, cL, h⟩
    have hNLn : NL ≤ n := by rw [← hNL, ← hLs]; have := ls_few (l.length + 1) l; have := HN.out; omega
    rw [hLs] at HRS
    obtain ⟨A, hA⟩ : ∃ A, scnF l = A := ⟨_, rfl⟩
    rw [hA] at HRS HT0 HF0
    rw [HN.out] at HRS
    obtain ⟨aL, cL, rfl⟩ := hsh
    clear hLs hNL HLs HB1 HS c22 hA HB
    go_loopw [4, 5, 7] (fun t4 t5 t7 wr => ∃ (T : List Tk) (k docs m : Nat) (r : List UInt8), t5 = .int .i64 docs ∧ t7 = .int .i64 k ∧ k ≤ NL ∧ Hid (Rs w wr A (.slice aL NL cL) Ls t4 T k docs m r n)) (fun _ _ t7 _ => NL - (intOf t7).toNat)
    case atStart => exact ⟨[], 0, 0, n, l, rfl, rfl, by omega, HRS⟩
    case round =>
      obtain ⟨T, k, docs, m, r, rfl, rfl, hkN, HR⟩ := hrel
      clear HRS
      have k0 : (0 : Int) ≤ k := by omega
      obtain ⟨hf1, hf2, hf3⟩ := few_le HR.out
      have hsz := HR.out.bel.size
      obtain ⟨NT, hNT⟩ : ∃ N, T.length = N := ⟨_, rfl⟩
      rw [hNT] at hf1
      have HNT := hide2 hNT
      clear hNT
      have HFC := hide2 HR.out.flt
      rcases ik : Ls[k]? with _ | x
      · have kl := List.getElem?_eq_none_iff.1 ik
        have hkN2 : NL ≤ k := by have := HNL.out; omega
        have kl' : ¬ (k : Int) < NL := by omega
        have HA : Hid (A = T.map okT) := by
          show _ = _
          rw [HR.out.goes, lin_end (HR.out.left.trans (List.drop_eq_nil_of_le kl)), List.append_nil]
        obtain ⟨hc0, hc1, hc2, hz0, hz1, hz2⟩ := flt_cells HFC.out
        go_wp2
        refine bodyPost_ret (v := .tuple #[u4, .agg #[.int .i64 0, .int .i64 0, .int .i64 0]]) (by simp [results, Tryd.results9, go_sem, hc0, hc1, hc2]) rfl ?_
        have h2 := HT0.out
        have h3 := HF0.out
        rw [HA.out] at h2 h3
        have e2 := preT_ok T []
        have e3 := flt_ok T []
        rw [List.append_nil] at e2 e3
        rw [e2] at h2
        rw [e3] at h3
        have h4 : T = T0 := by rw [← h2]; simp [preT]
        cases h3
        exact rs_fin HR.out h4 HN0.out _ _ _ 0 0 0 _ rfl
      · obtain ⟨gL, rfl, hcl, hkl⟩ := rs_cells HR.out ik
        have kl' : (k : Int) < NL := by omega
        obtain ⟨m', rfl⟩ : ∃ m', m = m' + 1 := by
          rcases m with _ | m
          · have hfu := HR.out.fuel
            have hle := HR.out.left
            have hr0 : r = [] := List.length_eq_zero_iff.1 (by omega)
            rw [hr0, ls_nil] at hle
            have := congrArg List.length hle
            rw [List.length_drop] at this
            have := (List.getElem?_eq_some_iff.1 ik).1
            simp at *
            omega
          · exact ⟨m, rfl⟩
        have hdr : Ls.drop k = x :: Ls.drop (k + 1) := by
          rw [List.drop_eq_getElem_cons (List.getElem?_eq_some_iff.1 ik).1, (List.getElem?_eq_some_iff.1 ik).2]
        obtain ⟨b, hb1, hb2, hb3, hb4⟩ := lin_step (num := k + 1) (docs := docs) HR.out.fuel (HR.out.left.trans hdr)
        have hxl : x.length ≤ 2 ^ 30 := by omega
        have lr := line_ref x ((k + 1 : Nat) : Int) wr hxl
        obtain ⟨⟨ts, er⟩, hre⟩ : ∃ R, readF x ((k + 1 : Nat) : Int) = R := ⟨_, rfl⟩
        rw [hre] at lr hb4
        rw [show (((k + 1 : Nat) : Int)) = (k : Int) + 1 by omega] at lr
        have HRE := hide2 hre
        have HL1 := hide2 hb1
        have HL4 := hide2 hb4
        have HIK := hide2 ik
        clear hre hb1 hb4 ik hdr
        by_cases her : er = 0
        · subst her
          have HL4' := HL4.out
          rw [if_neg (by simp)] at HL4'
          replace HL4 := hide2 HL4'
          clear HL4'
          have hfew := readF_few x ((k + 1 : Nat) : Int)
          have hdr := doc_read x ((k + 1 : Nat) : Int)
          rw [HRE.out] at hfew hdr
          dsimp only at hfew hdr
          rcases hdr with ⟨t, rfl, hk1, hdn⟩ | ⟨hk1, hdn⟩
          · have HDN := hide2 hdn
            clear hdn

            go_wp2_with first
              | (go_at_call 23; refine lr.mono ?_; rintro e w2 ⟨v2, rfl, hr2, hbb⟩; have HR2 := hide2 (HR.out.line hbb); obtain ⟨a2, c2, rfl, ha2⟩ := own_sh hr2; obtain ⟨g2, rfl⟩ := ha2 (by simp); obtain ⟨d0, _, _⟩ := row_cell3 hr2; rw [hk1] at d0; simp only [List.length_cons, List.length_nil] at hr2 ⊢; have HV2 := hide2 hr2; have hs2 := hbb.size; clear hr2 hbb)
              | (at_builtin; refine wpList_append_rows _ rfl (.tmp 52) (.tmp 53) 23 rfl w.heap.size 40 i40 _ 5 48 Tryd.underlying23 hi40 hy0 hy1 hy2 rfl (by decide) u4 NT (T.flatMap Tk.row) rfl (HNT.out ▸ HR2.out.row) wr.heap.size _ _ _ rfl HV2.out (fun u hu => by obtain ⟨t, _, ht⟩ := List.mem_flatMap.1 hu; exact Tk.row_one t u ht) (by unfold maxLen; omega) (by omega) (by omega) ?_; intro v3 w3 hown3 hgrow3; have HOW3 := hide2 hown3; have HGR3 := hide2 hgrow3; clear hown3 hgrow3)
            go_roundw
            case rel => exact ⟨T ++ [t], k + 1, docs + 1, m', b, by go_num, by go_num, by omega, HR2.out.next HRE.out HIK.out HL1.out hb2 hb3 HL4.out (by rw [List.flatMap_append, List.length_append, HNT.out]; exact HOW3.out) HGR3.out _ (by have := HDN.out; omega)⟩
            case measure => simp [intOf]; omega

          · have HDN := hide2 hdn
            clear hdn
            obtain ⟨M, hM⟩ : ∃ M, ts.length = M := ⟨_, rfl⟩
            by_cases hM1 : M = 1
            · subst hM1
              obtain ⟨t, rfl⟩ := List.length_eq_one_iff.1 hM
              have hk2 := hk1 t (by simp)
              have hk2b : (t.kind == 1) = false := by rw [beq_eq_false_iff_ne]; exact hk2
              clear hk1 hM

              go_wp2_with first
                | (go_at_call 23; refine lr.mono ?_; rintro e w2 ⟨v2, rfl, hr2, hbb⟩; have HR2 := hide2 (HR.out.line hbb); obtain ⟨a2, c2, rfl, ha2⟩ := own_sh hr2; obtain ⟨g2, rfl⟩ := ha2 (by simp); obtain ⟨d0, _, _⟩ := row_cell3 hr2; simp only [List.length_cons, List.length_nil] at hr2 ⊢; have HV2 := hide2 hr2; have hs2 := hbb.size; clear hr2 hbb)
                | (at_builtin; refine wpList_append_rows _ rfl (.tmp 52) (.tmp 53) 23 rfl w.heap.size 40 i40 _ 5 48 Tryd.underlying23 hi40 hy0 hy1 hy2 rfl (by decide) u4 NT (T.flatMap Tk.row) rfl (HNT.out ▸ HR2.out.row) wr.heap.size _ _ _ rfl HV2.out (fun u hu => by obtain ⟨t, _, ht⟩ := List.mem_flatMap.1 hu; exact Tk.row_one t u ht) (by unfold maxLen; omega) (by omega) (by omega) ?_; intro v3 w3 hown3 hgrow3; have HOW3 := hide2 hown3; have HGR3 := hide2 hgrow3; clear hown3 hgrow3)
              go_roundw
              case rel => exact ⟨T ++ [t], k + 1, docs, m', b, by go_num, by go_num, by omega, HR2.out.next HRE.out HIK.out HL1.out hb2 hb3 HL4.out (by rw [List.flatMap_append, List.length_append, HNT.out]; exact HOW3.out) HGR3.out _ (by have := HDN.out; omega)⟩
              case measure => simp [intOf]; omega

            · have hM2 : ¬ (M : Int) = 1 := by omega
              have hM3 : ((M : Int) == 1) = false := by rw [beq_eq_false_iff_ne]; exact hM2
              rw [hM] at hfew
              have HM := hide2 hM
              clear hk1 hM

              go_wp2_with first
                | (go_at_call 23; refine lr.mono ?_; rintro e w2 ⟨v2, rfl, hr2, hbb⟩; have HR2 := hide2 (HR.out.line hbb); dsimp only at hr2; rw [HM.out] at hr2; obtain ⟨a2, c2, rfl, ha2⟩ := own_sh hr2; have HV2 := hide2 hr2; have hs2 := hbb.size; clear hr2 hbb)
                | (at_builtin; refine wpList_append_rows _ rfl (.tmp 52) (.tmp 53) 23 rfl w.heap.size 40 i40 _ 5 48 Tryd.underlying23 hi40 hy0 hy1 hy2 rfl (by decide) u4 NT (T.flatMap Tk.row) rfl (HNT.out ▸ HR2.out.row) wr.heap.size _ _ _ rfl HV2.out (fun u hu => by obtain ⟨t, _, ht⟩ := List.mem_flatMap.1 hu; exact Tk.row_one t u ht) (by unfold maxLen; omega) (by omega) (by omega) ?_; intro v3 w3 hown3 hgrow3; have HOW3 := hide2 hown3; have HGR3 := hide2 hgrow3; clear hown3 hgrow3)
              go_roundw
              case rel => exact ⟨T ++ ts, k + 1, docs, m', b, by go_num, by go_num, by omega, HR2.out.next HRE.out HIK.out HL1.out hb2 hb3 HL4.out (by rw [List.flatMap_append, List.length_append, HNT.out, HM.out]; exact HOW3.out) HGR3.out _ (by have := HDN.out; omega)⟩
              case measure => simp [intOf]; omega

        · have herb : (er != 0) = true := by rw [bne_iff_ne]; exact her
          go_wp2_with (go_at_call 23; refine lr.mono ?_; rintro e w2 ⟨v2, rfl, hr2, hb2⟩; have HR2 := hide2 (HR.out.line hb2); obtain ⟨hc0, hc1, hc2, hz0, hz1, hz2⟩ := flt_cells HR2.out.flt; clear hr2 hb2)
          refine bodyPost_ret (v := .tuple #[u4, .agg #[.int .i64 docs, .int .i64 ((k : Int) + 1), .int .i64 er]]) (by simp [results, Tryd.results9, go_sem, hc0, hc1, hc2]) rfl ?_
          have h1 := HL4.out
          rw [if_pos her] at h1
          have h2 := HT0.out
          have h3 := HF0.out
          have hb := preT_bad ⟨zTk, docs, ((k + 1 : Nat) : Int), er⟩ her
          rw [HR.out.goes, h1] at h2 h3
          rw [preT_ok, hb.1, List.append_nil] at h2
          rw [flt_ok, hb.2] at h3
          cases h3
          exact rs_fin HR2.out h2 HN0.out _ _ _ _ _ _ _ (by rw [show (((k + 1 : Nat) : Int)) = (k : Int) + 1 by omega])
end Go.Proofs.YtjmgngocpokpgaaDoor
