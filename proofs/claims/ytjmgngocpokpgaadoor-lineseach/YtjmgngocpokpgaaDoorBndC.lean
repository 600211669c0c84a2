import Derived.Test.YtjmgngocpokpgaaDoorBndB
import Derived.Test.YtjmgngocpokpgaaDoorLin
import Derived.Laws.AppendOwnNone
import Derived.Test.YtjmgngocpokpgaaDoorLks
import Derived.Test.YtjmgngocpokpgaaDoorEc
import Derived.Deep.DeepCutAuto
/-
  The document's own scan.
-/
namespace Go.Proofs.YtjmgngocpokpgaaDoor
open Go.RowKit
set_option linter.unusedVariables false
set_option linter.unusedSimpArgs false
theorem row_cell3 {w : World} {B g N c : Nat} {t : Tk} {ts : List Tk} (h : w.ownsRow B 40 5 (.slice (some ⟨g, 0, none⟩) N c) N ((t :: ts).flatMap Tk.row)) : w.cell? ⟨g, 0, none⟩ = some (.int .i64 t.kind) ∧ w.cell? ⟨g, 3, none⟩ = some (.string ⟨t.text.toArray⟩) ∧ w.cell? ⟨g, 4, none⟩ = some (.bool t.q) :=
  ⟨h.cells rfl 0 _ rfl, h.cells rfl 3 _ rfl, h.cells rfl 4 _ rfl⟩
/-- What the lines' loop keeps: the fault's place, the lines, the tokens. -/
structure Rs (w wr : World) (A : List Tl) (vL : Value) (Ls : List (List UInt8)) (v : Value) (T : List Tk) (k docs m : Nat) (r : List UInt8) (L : Nat) : Prop where
  flt : wr.heap[w.heap.size]? = some (.cells #[.int .i64 0, .int .i64 0, .int .i64 0] 25 (0, 0))
  lns : wr.ownsRow w.heap.size 9 1 vL Ls.length (strs Ls)
  row : wr.ownsRow w.heap.size 40 5 v T.length (T.flatMap Tk.row)
  bel : Below w.heap.size w wr
  goes : A = T.map okT ++ linF (m + 1) r (k + 1) docs
  left : lsF (m + 1) r = Ls.drop k
  fuel : r.length < m + 1
  few : T.length + r.length ≤ L
  docs : docs ≤ T.length
theorem Rs.line {w wr w2 : World} {A : List Tl} {vL : Value} {Ls : List (List UInt8)} {v : Value} {T : List Tk} {k docs m : Nat} {r : List UInt8} {L : Nat} (h : Rs w wr A vL Ls v T k docs m r L) (hb : Below wr.heap.size wr w2) : Rs w w2 A vL Ls v T k docs m r L :=
  ⟨(hb.block _ (Array.getElem?_eq_some_iff.1 h.flt).1).trans h.flt, own_blk h.lns (fun q hq => hb.block q (h.lns.lt q hq).2), own_blk h.row (fun q hq => hb.block q (h.row.lt q hq).2), h.bel.trans (hb.mono h.bel.size), h.goes, h.left, h.fuel, h.few, h.docs⟩
/-- The next line's tokens behind the others. -/
theorem Rs.next {w w2 w3 : World} {A : List Tl} {vL : Value} {Ls : List (List UInt8)} {v v3 : Value} {T ts : List Tk} {k docs m : Nat} {r b x : List UInt8} {L : Nat} (h : Rs w w2 A vL Ls v T k docs (m + 1) r L)
    (hR : readF x ((k + 1 : Nat) : Int) = (ts, 0)) (hx : Ls[k]? = some x) (hl : lsF (m + 1) b = Ls.drop (k + 1)) (hbm : b.length < m + 1) (hbl : b.length + x.length ≤ r.length)
    (hlin : linF (m + 2) r (k + 1) docs = ts.map okT ++ linF (m + 1) b (k + 1 + 1) (docs + docN ts))
    (hown : w3.ownsRow w.heap.size 40 5 v3 (T ++ ts).length ((T ++ ts).flatMap Tk.row)) (hg : w2.grownBy w3 v.ownBlock) (d' : Nat) (hd : d' = docs + docN ts) : Rs w w3 A vL Ls v3 (T ++ ts) (k + 1) d' m b L := by
  subst hd
  have hs := h.bel.size
  have hF := (Array.getElem?_eq_some_iff.1 h.flt).1
  have hne : ∀ q, (∃ c t fr, w2.heap[q]? = some (.cells c t fr) ∧ t ≠ 40) → some q ≠ v.ownBlock := by
    rintro q ⟨c, t, fr, hq, ht⟩ e
    obtain ⟨cur, hc⟩ := own_cells h.row q e.symm
    rw [hq] at hc
    cases hc
    exact ht rfl
  have hts := readF_few x ((k + 1 : Nat) : Int)
  rw [hR] at hts
  have hdn := docN_le ts
  have hdc := h.docs
  have hfe := h.few
  refine ⟨?_, ?_, hown, h.bel.grown hg hs (fun q hq => (h.row.lt q hq).1), ?_, hl, hbm, ?_, ?_⟩
  · rw [hg.block _ hF (hne _ ⟨_, _, _, h.flt, by decide⟩)]
    exact h.flt
  · refine own_blk h.lns (fun q hq => hg.block q (h.lns.lt q hq).2 (hne q ?_))
    obtain ⟨cur, hc⟩ := own_cells h.lns q hq
    exact ⟨_, _, _, hc, by decide⟩
  · rw [h.goes, hlin, List.map_append, List.append_assoc]
  · dsimp only at hts
    rw [List.length_append]
    omega
  · rw [List.length_append]
    omega
theorem wpList_append_rows {P : Program} (w : World) {ops : Array Oper} {rest : List Oper} {o : Oper} {a : Act} {Q : Exit → Act → World → Prop} (hgd : o.guard = none) (s x : Operand) (t : TypeId)
    (ho : o.op = .call { callee := .builtin .append, args := #[s, x], argTypes := #[t, t] })
    (base : Nat) (e : TypeId) (i : TypeInfo) (z : Value) (size bytes : Nat) (ht : P.underlying t = some (.slice e)) (hi : P.info? e = some i) (hz : i.zero = some z)
    (hsize : i.size = size) (hby : i.bytes = bytes) (hzs : z.cells.size = size) (hsz : 0 < size)
    (v : Value) (n : Nat) (xs : List Value) (hs : a.eval s = v) (hown : w.ownsRow base e size v n xs)
    (base2 : Nat) (v2 : Value) (m : Nat) (ys : List Value) (hx : a.eval x = v2) (hown2 : w.ownsRow base2 e size v2 m ys) (h1 : ∀ u ∈ ys, u.oneCell' = true)
    (h63 : n + m ≤ maxLen) (hbytes : (n + m) * bytes ≤ 140737488355328) (hbase : base ≤ w.heap.size)
    (h : ∀ v' w', w'.ownsRow base e size v' (n + m) (xs ++ ys) → w.grownBy w' v.ownBlock → wpList P ops Q rest (a.put o.dst v') w') : wpList P ops Q (o :: rest) a w := by
  rcases hown2.2 with ⟨rfl, rfl⟩ | ⟨g, cap, cur, rfl, _⟩
  · have hy : ys = [] := List.length_eq_zero_iff.1 (by simpa using hown2.1)
    subst hy
    refine wpList_append_own_none hgd s x t ho base e i size ht hi v n xs hs hown hx ?_
    refine h v w ?_ ⟨rfl, rfl, rfl, Nat.le_refl _, fun _ _ _ => rfl⟩
    rw [List.append_nil]
    exact hown
  · exact wpList_append_own w hgd s x t ho base e i z size bytes ht hi hz hsize hby hzs hsz v n xs hs hown ⟨g, 0, none⟩ m cap ys hx hown2.1 (fun j u hj => hown2.cells rfl j u hj) h1 h63 hbytes hbase (fun v' w' ho' hg _ => h v' w' ho' hg)
theorem rs_begin {w w1 : World} {l : List UInt8} {vL : Value} {A : List Tl} (hA : A = linF (l.length + 1) l 1 0) (hL : w1.ownsRow (w.alloc (.cells #[.int .i64 0, .int .i64 0, .int .i64 0] 25 (0, 0))).heap.size 9 1 vL (lsF (l.length + 1) l).length (strs (lsF (l.length + 1) l)))
    (hb : Below (w.alloc (.cells #[.int .i64 0, .int .i64 0, .int .i64 0] 25 (0, 0))).heap.size (w.alloc (.cells #[.int .i64 0, .int .i64 0, .int .i64 0] 25 (0, 0))) w1) : Rs w w1 A vL (lsF (l.length + 1) l) (.slice none 0 0) [] 0 0 l.length l l.length := by
  have hz : (w.alloc (.cells #[.int .i64 0, .int .i64 0, .int .i64 0] 25 (0, 0))).heap.size = w.heap.size + 1 := by simp
  refine ⟨?_, own_low hL (by omega), World.ownsRow_nil _ _ _ _, ?_, by rw [hA]; rfl, by simp, by omega, by simp, by simp⟩
  · rw [hb.block _ (by omega)]
    exact Go.heap_alloc_new w _
  · exact ((Below.refl _ w).alloc (Nat.le_refl _) _).trans (hb.mono (by omega))
theorem rs_cells {w wr : World} {A : List Tl} {aL : Option Addr} {NL cL : Nat} {Ls : List (List UInt8)} {v : Value} {T : List Tk} {k docs m : Nat} {r : List UInt8} {L : Nat} (h : Rs w wr A (.slice aL NL cL) Ls v T k docs m r L) {x : List UInt8} (hx : Ls[k]? = some x) : ∃ g, aL = some ⟨g, 0, none⟩ ∧ wr.cell? ⟨g, k, none⟩ = some (.string ⟨x.toArray⟩) ∧ k < NL := by
  have hk := (List.getElem?_eq_some_iff.1 hx).1
  rcases h.lns.2 with ⟨h1, h2⟩ | ⟨g, cap, cur, h1, _⟩
  · omega
  · injection h1 with ha hn _
    subst ha
    have hc := h.lns.cells (g := g) rfl k (.string ⟨x.toArray⟩) (by simp [strs, hx])
    have he : (⟨g, 0, none⟩ : Addr).add k = ⟨g, k, none⟩ := by unfold Addr.add; split <;> simp_all
    rw [he] at hc
    exact ⟨g, rfl, hc, by omega⟩
theorem flt_cells {w : World} {F : Nat} (h : w.heap[F]? = some (.cells #[.int .i64 0, .int .i64 0, .int .i64 0] 25 (0, 0))) : w.cell? ⟨F, 0, none⟩ = some (.int .i64 0) ∧ w.cell? ⟨F, 1, none⟩ = some (.int .i64 0) ∧ w.cell? ⟨F, 2, none⟩ = some (.int .i64 0) ∧ w.frozen? ⟨F, 0, none⟩ = false ∧ w.frozen? ⟨F, 1, none⟩ = false ∧ w.frozen? ⟨F, 2, none⟩ = false :=
  ⟨cell_of h 0 _ rfl, cell_of h 1 _ rfl, cell_of h 2 _ rfl, by simp [World.frozen?, h], by simp [World.frozen?, h], by simp [World.frozen?, h]⟩
theorem ls_few : ∀ (m : Nat) (r : List UInt8), (lsF m r).length ≤ r.length
  | 0, r => by simp [lsF]
  | m + 1, r => by
    rw [lsF]
    split
    · simp
    · rename_i hr
      have h1 := cut10 r hr
      have h2 := ls_few m (Lib.cut r [10]).2.1
      rw [List.length_cons]
      omega
theorem rs_fin {w wr : World} {A : List Tl} {vL : Value} {Ls : List (List UInt8)} {v : Value} {T T0 : List Tk} {k docs m N0 : Nat} {r : List UInt8} {L : Nat} (h : Rs w wr A vL Ls v T k docs m r L) (hT : T = T0) (hN : T0.length = N0) (x y z : Value) (fd fl fe : Int) (e : Value) (he : e = .agg #[.int .i64 fd, .int .i64 fl, .int .i64 fe]) :
    ∃ av cv, Ending.returned (.tuple #[v, e]) = .returned (.tuple #[.slice av N0 cv, .agg #[.int .i64 fd, .int .i64 fl, .int .i64 fe]]) ∧ (((wr.setCell ⟨w.heap.size, 0, none⟩ x).setCell ⟨w.heap.size, 1, none⟩ y).setCell ⟨w.heap.size, 2, none⟩ z).ownsRow w.heap.size 40 5 (.slice av N0 cv) N0 (T0.flatMap Tk.row) ∧ (0 < N0 → ∃ g, av = some ⟨g, 0, none⟩) ∧ Below w.heap.size w (((wr.setCell ⟨w.heap.size, 0, none⟩ x).setCell ⟨w.heap.size, 1, none⟩ y).setCell ⟨w.heap.size, 2, none⟩ z) := by
  subst hT hN he
  obtain ⟨av, cv, rfl, hav⟩ := own_sh h.row
  refine ⟨av, cv, rfl, ?_, hav, ((h.bel.setCell (Nat.le_refl _) _).setCell (Nat.le_refl _) _).setCell (Nat.le_refl _) _⟩
  refine own_blk h.row (fun q hq => ?_)
  obtain ⟨cur, hc⟩ := own_cells h.row q hq
  have hne : q ≠ w.heap.size := by
    intro e
    subst e
    rw [h.flt] at hc
    cases hc
  rw [Below.heap_setCell _ _ _ _ hne, Below.heap_setCell _ _ _ _ hne, Below.heap_setCell _ _ _ _ hne]
theorem few_le {w wr : World} {A : List Tl} {vL : Value} {Ls : List (List UInt8)} {v : Value} {T : List Tk} {k docs m : Nat} {r : List UInt8} {L : Nat} (h : Rs w wr A vL Ls v T k docs m r L) : T.length ≤ L ∧ docs ≤ L ∧ r.length ≤ L := by
  have := h.few
  have := h.docs
  omega
set_option maxRecDepth 100000 in
set_option maxHeartbeats 8000000 in
theorem rscan_any (a : Option Addr) (n cap : Nat) (l : List UInt8) (w : World) (hn : l.length = n) (hB : Has w a (zL l)) (hl : n ≤ maxLen) (hcap : n ≤ cap) (T0 : List Tk) (fd fl fe : Int) (N0 : Nat) (hN0 : T0.length = N0) (hT0 : preT (scnF l) = T0) (hF0 : fltOf (scnF l) = (fd, fl, fe)) :
    Calls Tryd.prog 9 #[.slice a n cap] w fun e w' => ∃ av cv, e = .returned (.tuple #[.slice av N0 cv, .agg #[.int .i64 fd, .int .i64 fl, .int .i64 fe]]) ∧ w'.ownsRow w.heap.size 40 5 (.slice av N0 cv) N0 (T0.flatMap Tk.row) ∧ (0 < N0 → ∃ g, av = some ⟨g, 0, none⟩) ∧ Below w.heap.size w w' := by
  obtain ⟨i40, hi40, hy0, hy1, hy2⟩ := info_parts Tryd.info40
  have HN0 := hide2 hN0
  have HT0 := hide2 hT0
  have HF0 := hide2 hF0
  clear hN0 hT0 hF0
  have hl' : (n : Int) ≤ 9223372036854775807 := by unfold maxLen at hl; omega
  by_cases hlong : 65536 < n
  · have HS : Hid (scnF l = [longT]) := by show _ = _; unfold scnF; rw [if_pos (by omega)]
    have hlong' : (65536 : Int) < n := by omega
    clear hB
    go_enter Tryd.func9, Tryd.ntmps9
    go_wp2
    refine bodyPost_ret (v := .tuple #[.slice none 0 0, .agg #[.int .i64 0, .int .i64 0, .int .i64 3]]) (by simp [results, Tryd.results9, go_sem]) rfl ?_
    have h1 := preT_bad longT (by decide)
    have h2 := HT0.out
    have h3 := HF0.out
    rw [HS.out] at h2 h3
    rw [h1.1] at h2
    rw [h1.2] at h3
    subst h2
    have h4 := HN0.out
    simp at h4
    subst h4
    cases h3
    exact ⟨none, 0, rfl, World.ownsRow_nil _ _ _ _, fun h => by omega, (Below.refl _ w).alloc (Nat.le_refl _) _⟩
  · have HS : Hid (scnF l = linF (l.length + 1) l 1 0) := by show _ = _; unfold scnF; rw [if_neg (by omega)]; rfl
    have hlong' : ¬ (65536 : Int) < n := by omega
    have HB := hide2 hB
    have HN := hide2 hn
    clear hB hn
    have c22 := lines_ref a n cap l (w.alloc (.cells #[.int .i64 0, .int .i64 0, .int .i64 0] 25 (0, 0))) HN.out (HB.out.of_below ((Below.refl _ w).alloc (Nat.le_refl _) _)) (by omega) hcap
    go_enter Tryd.func9, Tryd.ntmps9
    go_wp2_with (go_at_call 22; refine c22.mono ?_; rintro e w1 ⟨vL, rfl, hLs, hb1⟩; have HLs := hide2 hLs; have HB1 := hide2 hb1; clear hLs hb1)
    have HRS := hide2 (rs_begin HS.out HLs.out HB1.out)
    obtain ⟨Ls, hLs⟩ : ∃ L, lsF (l.length + 1) l = L := ⟨_, rfl⟩
    obtain ⟨NL, hNL⟩ : ∃ N, Ls.length = N := ⟨_, rfl⟩
    have HNL := hide2 hNL
    have hsh : ∃ aL cL, vL = .slice aL NL cL := by
      have := own_sh HLs.out
      rw [hLs, hNL] at this
      obtain ⟨aL, cL, h, _⟩ := this
      exact ⟨aL, cL, h⟩
    have hNLn : NL ≤ n := by rw [← hNL, ← hLs]; have := ls_few (l.length + 1) l; have := HN.out; omega
    rw [hLs] at HRS
    obtain ⟨A, hA⟩ : ∃ A, scnF l = A := ⟨_, rfl⟩
    rw [hA] at HRS HT0 HF0
    rw [HN.out] at HRS
    obtain ⟨aL, cL, rfl⟩ := hsh
    clear hLs hNL HLs HB1 HS c22 hA HB
    go_loopw [4, 5, 7] (fun t4 t5 t7 wr => ∃ (T : List Tk) (k docs m : Nat) (r : List UInt8), t5 = .int .i64 docs ∧ t7 = .int .i64 k ∧ k ≤ NL ∧ Hid (Rs w wr A (.slice aL NL cL) Ls t4 T k docs m r n)) (fun _ _ t7 _ => NL - (intOf t7).toNat)
    case atStart => exact ⟨[], 0, 0, n, l, rfl, rfl, by omega, HRS⟩
    case round =>
      obtain ⟨T, k, docs, m, r, rfl, rfl, hkN, HR⟩ := hrel
      clear HRS
      have k0 : (0 : Int) ≤ k := by omega
      obtain ⟨hf1, hf2, hf3⟩ := few_le HR.out
      have hsz := HR.out.bel.size
      obtain ⟨NT, hNT⟩ : ∃ N, T.length = N := ⟨_, rfl⟩
      rw [hNT] at hf1
      have HNT := hide2 hNT
      clear hNT
      have HFC := hide2 HR.out.flt
      rcases ik : Ls[k]? with _ | x
      · have kl := List.getElem?_eq_none_iff.1 ik
        have hkN2 : NL ≤ k := by have := HNL.out; omega
        have kl' : ¬ (k : Int) < NL := by omega
        have HA : Hid (A = T.map okT) := by
          show _ = _
          rw [HR.out.goes, lin_end (HR.out.left.trans (List.drop_eq_nil_of_le kl)), List.append_nil]
        obtain ⟨hc0, hc1, hc2, hz0, hz1, hz2⟩ := flt_cells HFC.out
        go_wp2
        refine bodyPost_ret (v := .tuple #[u4, .agg #[.int .i64 0, .int .i64 0, .int .i64 0]]) (by simp [results, Tryd.results9, go_sem, hc0, hc1, hc2]) rfl ?_
        have h2 := HT0.out
        have h3 := HF0.out
        rw [HA.out] at h2 h3
        have e2 := preT_ok T []
        have e3 := flt_ok T []
        rw [List.append_nil] at e2 e3
        rw [e2] at h2
        rw [e3] at h3
        have h4 : T = T0 := by rw [← h2]; simp [preT]
        cases h3
        exact rs_fin HR.out h4 HN0.out _ _ _ 0 0 0 _ rfl
      · obtain ⟨gL, rfl, hcl, hkl⟩ := rs_cells HR.out ik
        have kl' : (k : Int) < NL := by omega
        obtain ⟨m', rfl⟩ : ∃ m', m = m' + 1 := by
          rcases m with _ | m
          · have hfu := HR.out.fuel
            have hle := HR.out.left
            have hr0 : r = [] := List.length_eq_zero_iff.1 (by omega)
            rw [hr0, ls_nil] at hle
            have := congrArg List.length hle
            rw [List.length_drop] at this
            have := (List.getElem?_eq_some_iff.1 ik).1
            simp at *
            omega
          · exact ⟨m, rfl⟩
        have hdr : Ls.drop k = x :: Ls.drop (k + 1) := by
          rw [List.drop_eq_getElem_cons (List.getElem?_eq_some_iff.1 ik).1, (List.getElem?_eq_some_iff.1 ik).2]
        obtain ⟨b, hb1, hb2, hb3, hb4⟩ := lin_step (num := k + 1) (docs := docs) HR.out.fuel (HR.out.left.trans hdr)
        have hxl : x.length ≤ 2 ^ 30 := by omega
        have lr := line_ref x ((k + 1 : Nat) : Int) wr hxl
        obtain ⟨⟨ts, er⟩, hre⟩ : ∃ R, readF x ((k + 1 : Nat) : Int) = R := ⟨_, rfl⟩
        rw [hre] at lr hb4
        rw [show (((k + 1 : Nat) : Int)) = (k : Int) + 1 by omega] at lr
        have HRE := hide2 hre
        have HL1 := hide2 hb1
        have HL4 := hide2 hb4
        have HIK := hide2 ik
        clear hre hb1 hb4 ik hdr
        by_cases her : er = 0
        · subst her
          have HL4' := HL4.out
          rw [if_neg (by simp)] at HL4'
          replace HL4 := hide2 HL4'
          clear HL4'
          have hfew := readF_few x ((k + 1 : Nat) : Int)
          have hdr := doc_read x ((k + 1 : Nat) : Int)
          rw [HRE.out] at hfew hdr
          dsimp only at hfew hdr
          rcases hdr with ⟨t, rfl, hk1, hdn⟩ | ⟨hk1, hdn⟩
          · have HDN := hide2 hdn
            clear hdn

            go_wp2_with first
              | (go_at_call 23; refine lr.mono ?_; rintro e w2 ⟨v2, rfl, hr2, hbb⟩; have HR2 := hide2 (HR.out.line hbb); obtain ⟨a2, c2, rfl, ha2⟩ := own_sh hr2; obtain ⟨g2, rfl⟩ := ha2 (by simp); obtain ⟨d0, _, _⟩ := row_cell3 hr2; rw [hk1] at d0; simp only [List.length_cons, List.length_nil] at hr2 ⊢; have HV2 := hide2 hr2; have hs2 := hbb.size; clear hr2 hbb)
              | (at_builtin; refine wpList_append_rows _ rfl (.tmp 52) (.tmp 53) 23 rfl w.heap.size 40 i40 _ 5 48 Tryd.underlying23 hi40 hy0 hy1 hy2 rfl (by decide) u4 NT (T.flatMap Tk.row) rfl (HNT.out ▸ HR2.out.row) wr.heap.size _ _ _ rfl HV2.out (fun u hu => by obtain ⟨t, _, ht⟩ := List.mem_flatMap.1 hu; exact Tk.row_one t u ht) (by unfold maxLen; omega) (by omega) (by omega) ?_; intro v3 w3 hown3 hgrow3; have HOW3 := hide2 hown3; have HGR3 := hide2 hgrow3; clear hown3 hgrow3)
            go_roundw
            case rel => exact ⟨T ++ [t], k + 1, docs + 1, m', b, by go_num, by go_num, by omega, HR2.out.next HRE.out HIK.out HL1.out hb2 hb3 HL4.out (by rw [List.flatMap_append, List.length_append, HNT.out]; exact HOW3.out) HGR3.out _ (by have := HDN.out; omega)⟩
            case measure => simp [intOf]; omega

          · have HDN := hide2 hdn
            clear hdn
            obtain ⟨M, hM⟩ : ∃ M, ts.length = M := ⟨_, rfl⟩
            by_cases hM1 : M = 1
            · subst hM1
              obtain ⟨t, rfl⟩ := List.length_eq_one_iff.1 hM
              have hk2 := hk1 t (by simp)
              have hk2b : (t.kind == 1) = false := by rw [beq_eq_false_iff_ne]; exact hk2
              clear hk1 hM

              go_wp2_with first
                | (go_at_call 23; refine lr.mono ?_; rintro e w2 ⟨v2, rfl, hr2, hbb⟩; have HR2 := hide2 (HR.out.line hbb); obtain ⟨a2, c2, rfl, ha2⟩ := own_sh hr2; obtain ⟨g2, rfl⟩ := ha2 (by simp); obtain ⟨d0, _, _⟩ := row_cell3 hr2; simp only [List.length_cons, List.length_nil] at hr2 ⊢; have HV2 := hide2 hr2; have hs2 := hbb.size; clear hr2 hbb)
                | (at_builtin; refine wpList_append_rows _ rfl (.tmp 52) (.tmp 53) 23 rfl w.heap.size 40 i40 _ 5 48 Tryd.underlying23 hi40 hy0 hy1 hy2 rfl (by decide) u4 NT (T.flatMap Tk.row) rfl (HNT.out ▸ HR2.out.row) wr.heap.size _ _ _ rfl HV2.out (fun u hu => by obtain ⟨t, _, ht⟩ := List.mem_flatMap.1 hu; exact Tk.row_one t u ht) (by unfold maxLen; omega) (by omega) (by omega) ?_; intro v3 w3 hown3 hgrow3; have HOW3 := hide2 hown3; have HGR3 := hide2 hgrow3; clear hown3 hgrow3)
              go_roundw
              case rel => exact ⟨T ++ [t], k + 1, docs, m', b, by go_num, by go_num, by omega, HR2.out.next HRE.out HIK.out HL1.out hb2 hb3 HL4.out (by rw [List.flatMap_append, List.length_append, HNT.out]; exact HOW3.out) HGR3.out _ (by have := HDN.out; omega)⟩
              case measure => simp [intOf]; omega

            · have hM2 : ¬ (M : Int) = 1 := by omega
              have hM3 : ((M : Int) == 1) = false := by rw [beq_eq_false_iff_ne]; exact hM2
              rw [hM] at hfew
              have HM := hide2 hM
              clear hk1 hM

              go_wp2_with first
                | (go_at_call 23; refine lr.mono ?_; rintro e w2 ⟨v2, rfl, hr2, hbb⟩; have HR2 := hide2 (HR.out.line hbb); dsimp only at hr2; rw [HM.out] at hr2; obtain ⟨a2, c2, rfl, ha2⟩ := own_sh hr2; have HV2 := hide2 hr2; have hs2 := hbb.size; clear hr2 hbb)
                | (at_builtin; refine wpList_append_rows _ rfl (.tmp 52) (.tmp 53) 23 rfl w.heap.size 40 i40 _ 5 48 Tryd.underlying23 hi40 hy0 hy1 hy2 rfl (by decide) u4 NT (T.flatMap Tk.row) rfl (HNT.out ▸ HR2.out.row) wr.heap.size _ _ _ rfl HV2.out (fun u hu => by obtain ⟨t, _, ht⟩ := List.mem_flatMap.1 hu; exact Tk.row_one t u ht) (by unfold maxLen; omega) (by omega) (by omega) ?_; intro v3 w3 hown3 hgrow3; have HOW3 := hide2 hown3; have HGR3 := hide2 hgrow3; clear hown3 hgrow3)
              go_roundw
              case rel => exact ⟨T ++ ts, k + 1, docs, m', b, by go_num, by go_num, by omega, HR2.out.next HRE.out HIK.out HL1.out hb2 hb3 HL4.out (by rw [List.flatMap_append, List.length_append, HNT.out, HM.out]; exact HOW3.out) HGR3.out _ (by have := HDN.out; omega)⟩
              case measure => simp [intOf]; omega

        · have herb : (er != 0) = true := by rw [bne_iff_ne]; exact her
          go_wp2_with (go_at_call 23; refine lr.mono ?_; rintro e w2 ⟨v2, rfl, hr2, hb2⟩; have HR2 := hide2 (HR.out.line hb2); obtain ⟨hc0, hc1, hc2, hz0, hz1, hz2⟩ := flt_cells HR2.out.flt; clear hr2 hb2)
          refine bodyPost_ret (v := .tuple #[u4, .agg #[.int .i64 docs, .int .i64 ((k : Int) + 1), .int .i64 er]]) (by simp [results, Tryd.results9, go_sem, hc0, hc1, hc2]) rfl ?_
          have h1 := HL4.out
          rw [if_pos her] at h1
          have h2 := HT0.out
          have h3 := HF0.out
          have hb := preT_bad ⟨zTk, docs, ((k + 1 : Nat) : Int), er⟩ her
          rw [HR.out.goes, h1] at h2 h3
          rw [preT_ok, hb.1, List.append_nil] at h2
          rw [flt_ok, hb.2] at h3
          cases h3
          exact rs_fin HR2.out h2 HN0.out _ _ _ _ _ _ _ (by rw [show (((k + 1 : Nat) : Int)) = (k : Int) + 1 by omega])
end Go.Proofs.YtjmgngocpokpgaaDoor

/-
  LinesScan.
-/
namespace Go.Proofs.YtjmgngocpokpgaaDoor
open Go.RowKit
set_option linter.unusedVariables false
set_option linter.unusedSimpArgs false
theorem row_cell40 {w : World} {B g N c : Nat} {T : List Tk} (h : w.ownsRow B 40 5 (.slice (some ⟨g, 0, none⟩) N c) N (T.flatMap Tk.row)) (i : Nat) (t : Tk) (ht : T[i]? = some t) (j : Nat) (u : Value) (hj : j < 5) (hu : t.row[j]? = some u) : w.cell? ⟨g, i * 5 + j, none⟩ = some u := by
  have := h.cells rfl (i * 5 + j) u (by rw [flat_row T i j t ht hj]; exact hu)
  rwa [Go.WideShapes.add_plain, Nat.zero_add] at this
/-- Bytes of one's own, written over. -/
theorem Ovw.of_row {w : World} {base g n cap : Nat} {zs : List Int} (h : Row w base g n cap zs) : Ovw w w (some ⟨g, 0, none⟩) n := by
  refine ⟨fun _ _ => rfl, rfl, fun j hj => ?_⟩
  obtain ⟨cur, hc⟩ := own_cells h.owns g rfl
  have h1 := h.cellAt j (by omega)
  have hz := h.len
  have e : (zs ++ [201, 202]).getD j 0 = zs.getD j 0 := by simp [List.getD, List.getElem?_append_left (show j < zs.length by omega)]
  rw [e] at h1
  rw [cell_block hc] at h1
  exact ⟨g, 0, _, cur, rfl, (h.oct j).1, (h.oct j).2, hc, by simpa using h1⟩
/-- What stands behind all calls. -/
structure Aft (w wr : World) (B1 B2 N0 N F : Nat) (T0 T : List Tk) (fd fl fe : Int) (vw vt : Value) : Prop where
  want : wr.ownsRow B1 40 5 vw N0 (T0.flatMap Tk.row)
  toks : wr.ownsRow B2 39 5 vt N (T.flatMap Tk.row)
  flt : wr.heap[F]? = some (.cells #[.int .i64 fd, .int .i64 fl, .int .i64 fe] 25 (0, 0))
  bel : Below w.heap.size w wr
theorem Aft.keep {w wr w' : World} {B1 B2 N0 N F : Nat} {T0 T : List Tk} {fd fl fe : Int} {vw vt : Value} (h : Aft w wr B1 B2 N0 N F T0 T fd fl fe vw vt) (hk : ∀ k, (vw.ownBlock = some k ∨ vt.ownBlock = some k ∨ k = F) → w'.heap[k]? = wr.heap[k]?) (hb : Below w.heap.size w w') : Aft w w' B1 B2 N0 N F T0 T fd fl fe vw vt :=
  ⟨own_blk h.want (fun k hq => hk k (.inl hq)), own_blk h.toks (fun k hq => hk k (.inr (.inl hq))), (hk F (.inr (.inr rfl))).trans h.flt, hb⟩
theorem Aft.below {w wr w' : World} {B1 B2 N0 N F : Nat} {T0 T : List Tk} {fd fl fe : Int} {vw vt : Value} (h : Aft w wr B1 B2 N0 N F T0 T fd fl fe vw vt) (hb : Below wr.heap.size wr w') : Aft w w' B1 B2 N0 N F T0 T fd fl fe vw vt :=
  h.keep (fun k hk => hb.block k (by
    rcases hk with hk | hk | rfl
    · exact (h.want.lt k hk).2
    · exact (h.toks.lt k hk).2
    · exact (Array.getElem?_eq_some_iff.1 h.flt).1)) (h.bel.trans (hb.mono h.bel.size))
theorem cell_bel {w w' : World} (hb : Below w.heap.size w w') {a : Addr} {v : Value} (h : w.cell? a = some v) : w'.cell? a = some v := (hb.cell (World.block_lt_of_cell? w _ h)).trans h
theorem Row.keep {w w' : World} {base g n cap : Nat} {zs : List Int} (h : Row w base g n cap zs) (hb : Below w.heap.size w w') : Row w' base g n cap zs := h.below hb h.lt.2
set_option maxRecDepth 100000 in
set_option maxHeartbeats 8000000 in
theorem scans_any (a : Option Addr) (n cap : Nat) (l : List UInt8) (w : World) (hm : HasM w) (hn : l.length = n) (hB : Has w a (zL l)) (hbare : a = none → cap = 0) (hl : n ≤ 140737488351232) (hcap : n ≤ cap) :
    Calls Tryd.prog 3 #[.slice a n cap] w fun e w' => e = .returned (.bool true) ∧ Below w.heap.size w w' := by
  have hw0 := hm.lt
  obtain ⟨A, hA⟩ : ∃ A, scnF l = A := ⟨_, rfl⟩
  obtain ⟨T0, hT0⟩ : ∃ T, preT A = T := ⟨_, rfl⟩
  obtain ⟨T, hT⟩ : ∃ T, toksOf A = T := ⟨_, rfl⟩
  obtain ⟨fd, fl, fe, hF⟩ : ∃ fd fl fe, fltOf A = (fd, fl, fe) := ⟨_, _, _, rfl⟩
  obtain ⟨N0, hN0⟩ : ∃ N, T0.length = N := ⟨_, rfl⟩
  obtain ⟨N, hN⟩ : ∃ N, T.length = N := ⟨_, rfl⟩
  have hNl : N ≤ 65537 := by rw [← hN, ← hT, ← hA]; exact toks_few l
  have HTT : Hid (fe = 0 → T0 = T ∧ N0 = N) := fun h => by
    have := tok_pre A (by rw [hF]; exact h)
    rw [hT, hT0] at this
    exact ⟨this.symm, by rw [← hN0, ← hN, this]⟩
  have HTB : Hid (fe ≠ 0 → N = 0) := fun h => by
    have := tok_bad A (by rw [hF]; exact h)
    rw [hT] at this
    rw [← hN, this]; rfl
  have c9 := rscan_any a n cap l w hn hB (by unfold maxLen; omega) hcap T0 fd fl fe N0 hN0 (by rw [hA]; exact hT0) (by rw [hA]; exact hF)
  have HA := hide2 hA
  have HT := hide2 hT
  have HF := hide2 hF
  have HN := hide2 hN
  have Hn := hide2 hn
  have HB := hide2 hB
  have HM := hide2 hm
  clear hA hT0 hT hF hN0 hN hn hB hm
  go_enter Tryd.func3, Tryd.ntmps3
  go_wp2_with fail
  refine c9.mono ?_
  rintro e w1 ⟨aw, cw, rfl, hrw, haw, b1⟩
  have HRW := hide2 hrw
  have HB1 := hide2 b1
  have hs1 := b1.size
  clear hrw b1 c9
  go_wp2_with fail
  have b1a : Below w1.heap.size w1 (w1.alloc (.cells #[.int .i64 fd, .int .i64 fl, .int .i64 fe] 25)) := (Below.refl _ w1).alloc (Nat.le_refl _) _
  have k1a : (w1.alloc (.cells #[.int .i64 fd, .int .i64 fl, .int .i64 fe] 25)).heap[w1.heap.size]? = some (.cells #[.int .i64 fd, .int .i64 fl, .int .i64 fe] 25 (0, 0)) := Go.heap_alloc_new w1 _
  have s1a : (w1.alloc (.cells #[.int .i64 fd, .int .i64 fl, .int .i64 fe] 25)).heap.size = w1.heap.size + 1 := by simp
  obtain ⟨w2, hw2⟩ : ∃ W, w1.alloc (.cells #[.int .i64 fd, .int .i64 fl, .int .i64 fe] 25) = W := ⟨_, rfl⟩
  rw [hw2] at b1a k1a s1a ⊢
  have HB2 := hide2 (HB1.out.trans (b1a.mono hs1))
  have HK2 := hide2 k1a
  have HB12 := hide2 b1a
  have hs2 : w1.heap.size + 1 ≤ w2.heap.size ∧ w2.heap.size ≤ w1.heap.size + 1 := by omega
  clear hw2 b1a k1a s1a
  refine (lent_row a n cap (zL l) w2 (by rw [zL_length]; exact Hn.out) (HB.out.of_below HB2.out) (oct_zL l) hbare hl).mono ?_
  rintro e w3 ⟨g, cp, rfl, hrow, b3⟩
  have HROW := hide2 hrow
  have HB3 := hide2 b3
  have hs3 := b3.size
  have hg := hrow.lt
  have hcp := hrow.cap
  clear hrow b3
  go_wp2_with fail
  refine (scan_call (some ⟨g, 0, none⟩) n cp l w3 Hn.out HROW.out.has (by unfold maxLen; omega) (HM.out.below (HB2.out.trans (HB3.out.mono HB2.out.size)) hw0) T fd fl fe N HN.out (by rw [HA.out]; exact HT.out) (by rw [HA.out]; exact HF.out)).mono ?_
  rintro e w4 ⟨av, cv, rfl, hrt, hav, b4⟩
  have HRT := hide2 hrt
  have HB4 := hide2 b4
  have hs4 := b4.size
  clear hrt b4
  go_wp2_with fail
  have b4a : Below w4.heap.size w4 (w4.alloc (.cells #[.int .i64 fd, .int .i64 fl, .int .i64 fe] 32)) := (Below.refl _ w4).alloc (Nat.le_refl _) _
  have k4a : (w4.alloc (.cells #[.int .i64 fd, .int .i64 fl, .int .i64 fe] 32)).heap[w4.heap.size]? = some (.cells #[.int .i64 fd, .int .i64 fl, .int .i64 fe] 32 (0, 0)) := Go.heap_alloc_new w4 _
  obtain ⟨w5, hw5⟩ : ∃ W, w4.alloc (.cells #[.int .i64 fd, .int .i64 fl, .int .i64 fe] 32) = W := ⟨_, rfl⟩
  rw [hw5] at b4a k4a ⊢
  have HB35 := hide2 (HB4.out.trans (b4a.mono hs4))
  have HAF : Hid (Aft w w5 w.heap.size w3.heap.size N0 N w1.heap.size T0 T fd fl fe (.slice aw N0 cw) (.slice av N cv)) :=
    ⟨own_blk HRW.out (fun k hk => by have := (HRW.out.lt k hk).2; rw [HB35.out.block k (by omega), HB3.out.block k (by omega), HB12.out.block k (by omega)]), own_blk HRT.out (fun k hk => b4a.block k (HRT.out.lt k hk).2), by rw [HB35.out.block _ (by omega), HB3.out.block _ (by omega)]; exact HK2.out, HB2.out.trans ((HB3.out.trans (HB35.out.mono hs3)).mono HB2.out.size)⟩
  have HR5 := hide2 (HROW.out.keep HB35.out)
  have hlw : Hid (∀ k, (Value.slice aw N0 cw).ownBlock = some k → k < w1.heap.size) := fun k hk => (HRW.out.lt k hk).2
  have hlt : Hid (∀ k, (Value.slice av N cv).ownBlock = some k → w3.heap.size ≤ k) := fun k hk => (HRT.out.lt k hk).1
  clear hw5 b4a HRW HRT HROW HB4 HB3 HB2 HK2 HB12 HB1
  refine (kept_any w2.heap.size g n cp a cap (zL l) w5 HR5.out (HB.out.of_below HAF.out.bel)).mono ?_
  rintro e w6 ⟨rfl, q, hq⟩
  have b6 : Below w5.heap.size w5 w6 := hq ▸ below_drewN (Below.refl _ w5) q
  have HA6 := hide2 (HAF.out.below b6)
  have HR6 := hide2 (HR5.out.keep b6)
  have k6 := (b6.block _ (Array.getElem?_eq_some_iff.1 k4a).1).trans k4a
  have x0 := cell_of k6 0 _ rfl
  have x1 := cell_of k6 1 _ rfl
  have x2 := cell_of k6 2 _ rfl
  have y0 := cell_of HA6.out.flt 0 _ rfl
  have y1 := cell_of HA6.out.flt 1 _ rfl
  have y2 := cell_of HA6.out.flt 2 _ rfl
  clear hq b6 k4a k6 HAF HR5
  go_wp2_with (go_at_call 13; refine (fault_any fd fl fe w6).mono ?_; rintro e w7 ⟨rfl, b7⟩; have HA7 := hide2 (HA6.out.below b7); have HR7 := hide2 (HR6.out.keep b7); clear b7)
  have HOV := hide2 (Ovw.of_row HR7.out)
  have hnl : (n : Int) ≤ 140737488351232 := by omega
  have hgw : w.heap.size ≤ g := by omega
  clear x0 x1 x2 y0 y1 y2 HA6 HR6
  go_loopw [8] (fun t wr => ∃ i : Nat, t = .int .i64 i ∧ i ≤ n ∧ Ovw w7 wr (some ⟨g, 0, none⟩) n ∧ Below w.heap.size w wr) (fun t _ => n - (intOf t).toNat)
  case atStart => exact ⟨0, rfl, by omega, HOV.out, HA7.out.bel⟩
  case round =>
    obtain ⟨i, rfl, hi, hov, hbw⟩ := hrel
    have i0 : (0 : Int) ≤ i := by omega
    by_cases hin : i < n
    · have hi2 : (i : Int) < n := by omega
      obtain ⟨g', off, c, cur, he, c0, c1, hgc, hcu⟩ := hov.cel i hin
      cases he
      rw [Nat.zero_add] at hcu
      have hci : wr.cell? ⟨g, i, none⟩ = some (.int .u8 c) := by rw [cell_block hgc]; exact hcu
      have hfi : wr.frozen? ⟨g, i, none⟩ = false := by simp [World.frozen?, hgc]
      have hp : ∀ x, 0 ≤ x → x ≤ 255 → Ovw w7 (wr.setCell ⟨g, i, none⟩ (.int .u8 x)) (some ⟨g, 0, none⟩) n := fun x h0 h1 => by have := hov.put (i := i) h0 h1; rwa [Nat.zero_add] at this
      have HP := hide2 hp
      have HBW := hide2 hbw
      clear hov hbw hp HOV
      go_wp2_with fail
      go_roundw
      case rel => exact ⟨i + 1, by go_num, by omega, HP.out _ (by omega) (by omega), HBW.out.setCell (p := ⟨g, i, none⟩) hgw _⟩
      case measure => simp [intOf]; omega
    · have hi2 : ¬ (i : Int) < n := by omega
      have HA8 : Hid (Aft w wr w.heap.size w3.heap.size N0 N w1.heap.size T0 T fd fl fe (.slice aw N0 cw) (.slice av N cv)) := HA7.out.keep (fun k hk => hov.oth k (fun x hx => by
        cases hx
        show k ≠ g
        rcases hk with hk | hk | rfl
        · have := hlw.out k hk; omega
        · have := hlt.out k hk; omega
        · omega)) hbw
      have y2 := cell_of HA8.out.flt 2 _ rfl
      have HBW := hide2 hbw
      clear hov hbw HOV HA7 HR7
      by_cases hfe : fe = 0
      · subst hfe
        obtain ⟨e1, e2⟩ := HTT.out rfl
        subst e1 e2
        go_wp2
        have hNi : (N0 : Int) ≤ 65537 := by omega
        have HNN : Hid (T0.length = N0) := HN.out
        go_loopw [9] (fun t wq => ∃ i : Nat, t = .int .i64 i ∧ i ≤ N0 ∧ Hid (Aft w wq w.heap.size w3.heap.size N0 N0 w1.heap.size T0 T0 fd fl 0 (.slice aw N0 cw) (.slice av N0 cv))) (fun t _ => N0 - (intOf t).toNat)
        case atStart => exact ⟨0, rfl, by omega, HA8⟩
        case round =>
          obtain ⟨i, rfl, hi, HA9⟩ := hrel
          have i0 : (0 : Int) ≤ i := by omega
          by_cases hin : i < N0
          · have hi2 : (i : Int) < N0 := by omega
            obtain ⟨gw, rfl⟩ := haw (by omega)
            obtain ⟨gt, rfl⟩ := hav (by omega)
            rcases hti : T0[i]? with _ | t
            · have := List.getElem?_eq_none_iff.1 hti; have := HNN.out; omega
            obtain ⟨kd, ln, cl, tx, q⟩ := t
            have a0 := row_cell HA9.out.toks i _ hti 0 _ (by omega) rfl
            have a1 := row_cell HA9.out.toks i _ hti 1 _ (by omega) rfl
            have a2 := row_cell HA9.out.toks i _ hti 2 _ (by omega) rfl
            have a3 := row_cell HA9.out.toks i _ hti 3 _ (by omega) rfl
            have a4 := row_cell HA9.out.toks i _ hti 4 _ (by omega) rfl
            have e0 := row_cell40 HA9.out.want i _ hti 0 _ (by omega) rfl
            have e1 := row_cell40 HA9.out.want i _ hti 1 _ (by omega) rfl
            have e2 := row_cell40 HA9.out.want i _ hti 2 _ (by omega) rfl
            have e3 := row_cell40 HA9.out.want i _ hti 3 _ (by omega) rfl
            have e4 := row_cell40 HA9.out.want i _ hti 4 _ (by omega) rfl
            rw [Nat.add_zero] at a0 e0
            dsimp only at a0 a1 a2 a3 a4 e0 e1 e2 e3 e4
            have HC : Hid (Calls Tryd.prog 14 #[.agg #[.int .i64 kd, .int .i64 ln, .int .i64 cl, .string ⟨tx.toArray⟩, .bool q], .agg #[.int .i64 kd, .int .i64 ln, .int .i64 cl, .string ⟨tx.toArray⟩, .bool q]] wr.drew fun r w' => r = .returned (.bool true) ∧ Below wr.heap.size wr w') :=
              (token_any ⟨kd, ln, cl, tx, q⟩ wr.drew).mono fun e w' ⟨he, hb⟩ => ⟨he, (below_drewN (Below.refl _ wr) 1).trans hb⟩
            clear hti
            go_wp2_with fail
            go_region_held3 (fun w' => w'.cell? ⟨gt, i * 5, none⟩ = some (.int .i64 kd) ∧ w'.cell? ⟨gt, i * 5 + 1, none⟩ = some (.int .i64 ln) ∧ w'.cell? ⟨gt, i * 5 + 2, none⟩ = some (.int .i64 cl) ∧ w'.cell? ⟨gt, i * 5 + 3, none⟩ = some (.string ⟨tx.toArray⟩) ∧ w'.cell? ⟨gt, i * 5 + 4, none⟩ = some (.bool q) ∧ w'.cell? ⟨gw, i * 5, none⟩ = some (.int .i64 kd) ∧ w'.cell? ⟨gw, i * 5 + 1, none⟩ = some (.int .i64 ln) ∧ w'.cell? ⟨gw, i * 5 + 2, none⟩ = some (.int .i64 cl) ∧ w'.cell? ⟨gw, i * 5 + 3, none⟩ = some (.string ⟨tx.toArray⟩) ∧ w'.cell? ⟨gw, i * 5 + 4, none⟩ = some (.bool q)) (go_keep) (first | (go_at_call 14; refine HC.out.mono ?_; rintro e w' ⟨rfl, hb1⟩; have u0 := cell_bel hb1 a0; have u1 := cell_bel hb1 a1; have u2 := cell_bel hb1 a2; have u3 := cell_bel hb1 a3; have u4 := cell_bel hb1 a4; have v0 := cell_bel hb1 e0; have v1 := cell_bel hb1 e1; have v2 := cell_bel hb1 e2; have v3 := cell_bel hb1 e3; have v4 := cell_bel hb1 e4))
            have HA10 := hide2 (HA9.out.below hb1)
            clear u0 u1 u2 u3 u4 v0 v1 v2 v3 v4 hb1
            go_wp2_with fail
            go_roundw
            case rel => exact ⟨i + 1, by go_num, by omega, HA10⟩
            case measure => simp [intOf]; omega
          · have hi2 : ¬ (i : Int) < N0 := by omega
            go_wp2
            go_ret
            exact ⟨rfl, HA9.out.bel⟩
      · have hfe2 : (fe != 0) = true := by rw [bne_iff_ne]; exact hfe
        have hN0 := HTB.out hfe
        subst hN0
        go_wp2
        go_ret
        exact ⟨rfl, HBW.out⟩
end Go.Proofs.YtjmgngocpokpgaaDoor

/-
  The statement's own closure over what is told.
-/
namespace Go.Proofs.YtjmgngocpokpgaaDoor
open Go.RowKit
set_option linter.unusedVariables false
set_option linter.unusedSimpArgs false
/-- What the closure's variables say. -/
structure Jc (w : World) (B p1 p2 p3 p4 p5 p6 p7 N0 : Nat) (vw : Value) (T0 : List Tk) (fd fl fe r most : Int) (n : Nat) (en : Bool) (W : World) : Prop where
  fine : W.heap[p1]? = some (.cells #[.bool true] 4 (0, 0))
  ended : W.heap[p2]? = some (.cells #[.bool en] 4 (0, 0))
  num : W.heap[p3]? = some (.cells #[.int .i64 n] 3 (0, 0))
  want : W.heap[p4]? = some (.cells #[vw] 23 (0, 0))
  flt : W.heap[p5]? = some (.cells #[.int .i64 fd, .int .i64 fl, .int .i64 fe] 25 (0, 0))
  rnd : W.heap[p6]? = some (.cells #[.int .i64 r] 3 (0, 0))
  most : W.heap[p7]? = some (.cells #[.int .i64 most] 3 (0, 0))
  row : W.ownsRow B 40 5 vw N0 (T0.flatMap Tk.row)
  bel : Below w.heap.size w W
  low1 : w.heap.size ≤ p1
  low2 : w.heap.size ≤ p2
  low3 : w.heap.size ≤ p3
  ne12 : p1 ≠ p2
  ne36 : p3 ≠ p6
  ne37 : p3 ≠ p7
theorem Jc.below {w : World} {B p1 p2 p3 p4 p5 p6 p7 N0 : Nat} {vw : Value} {T0 : List Tk} {fd fl fe r most : Int} {n : Nat} {en : Bool} {W W' : World} (h : Jc w B p1 p2 p3 p4 p5 p6 p7 N0 vw T0 fd fl fe r most n en W) (hb : Below W.heap.size W W') : Jc w B p1 p2 p3 p4 p5 p6 p7 N0 vw T0 fd fl fe r most n en W' := by
  have k : ∀ {q o}, W.heap[q]? = some o → W'.heap[q]? = some o := fun hq => (hb.block _ (Array.getElem?_eq_some_iff.1 hq).1).trans hq
  exact ⟨k h.fine, k h.ended, k h.num, k h.want, k h.flt, k h.rnd, k h.most, own_blk h.row (fun q hq => hb.block q (h.row.lt q hq).2), h.bel.trans (hb.mono h.bel.size), h.low1, h.low2, h.low3, h.ne12, h.ne36, h.ne37⟩
theorem Jc.setFine {w : World} {B p1 p2 p3 p4 p5 p6 p7 N0 : Nat} {vw : Value} {T0 : List Tk} {fd fl fe r most : Int} {n : Nat} {en : Bool} {W : World} (h : Jc w B p1 p2 p3 p4 p5 p6 p7 N0 vw T0 fd fl fe r most n en W) : Jc w B p1 p2 p3 p4 p5 p6 p7 N0 vw T0 fd fl fe r most n en (W.setCell ⟨p1, 0, none⟩ (.bool true)) := by
  have k : ∀ {q o}, q ≠ p1 → W.heap[q]? = some o → (W.setCell ⟨p1, 0, none⟩ (.bool true)).heap[q]? = some o := fun hn hq => (heap_setCell_other W ⟨p1, 0, none⟩ _ _ hn).trans hq
  have t : ∀ {q c ty fr}, ty ≠ 4 → W.heap[q]? = some (.cells c ty fr) → q ≠ p1 := fun ht hq => cells_ne hq h.fine ht
  refine ⟨heap_setCell_same W p1 0 _ _ _ h.fine, k (Ne.symm h.ne12) h.ended, k (t (by decide) h.num) h.num, k (t (by decide) h.want) h.want, k (t (by decide) h.flt) h.flt, k (t (by decide) h.rnd) h.rnd, k (t (by decide) h.most) h.most, own_blk h.row (fun q hq => ?_), h.bel.setCell (p := ⟨p1, 0, none⟩) h.low1 _, h.low1, h.low2, h.low3, h.ne12, h.ne36, h.ne37⟩
  obtain ⟨cur, hc⟩ := own_cells h.row q hq
  exact heap_setCell_other W ⟨p1, 0, none⟩ _ _ (t (by decide) hc)
theorem Jc.setEnd {w : World} {B p1 p2 p3 p4 p5 p6 p7 N0 : Nat} {vw : Value} {T0 : List Tk} {fd fl fe r most : Int} {n : Nat} {en : Bool} {W : World} (h : Jc w B p1 p2 p3 p4 p5 p6 p7 N0 vw T0 fd fl fe r most n en W) (en' : Bool) : Jc w B p1 p2 p3 p4 p5 p6 p7 N0 vw T0 fd fl fe r most n en' (W.setCell ⟨p2, 0, none⟩ (.bool en')) := by
  have k : ∀ {q o}, q ≠ p2 → W.heap[q]? = some o → (W.setCell ⟨p2, 0, none⟩ (.bool en')).heap[q]? = some o := fun hn hq => (heap_setCell_other W ⟨p2, 0, none⟩ _ _ hn).trans hq
  have t : ∀ {q c ty fr}, ty ≠ 4 → W.heap[q]? = some (.cells c ty fr) → q ≠ p2 := fun ht hq => cells_ne hq h.ended ht
  refine ⟨k h.ne12 h.fine, heap_setCell_same W p2 0 _ _ _ h.ended, k (t (by decide) h.num) h.num, k (t (by decide) h.want) h.want, k (t (by decide) h.flt) h.flt, k (t (by decide) h.rnd) h.rnd, k (t (by decide) h.most) h.most, own_blk h.row (fun q hq => ?_), h.bel.setCell (p := ⟨p2, 0, none⟩) h.low2 _, h.low1, h.low2, h.low3, h.ne12, h.ne36, h.ne37⟩
  obtain ⟨cur, hc⟩ := own_cells h.row q hq
  exact heap_setCell_other W ⟨p2, 0, none⟩ _ _ (t (by decide) hc)
theorem Jc.setNum {w : World} {B p1 p2 p3 p4 p5 p6 p7 N0 : Nat} {vw : Value} {T0 : List Tk} {fd fl fe r most : Int} {n : Nat} {en : Bool} {W : World} (h : Jc w B p1 p2 p3 p4 p5 p6 p7 N0 vw T0 fd fl fe r most n en W) (n' : Nat) : Jc w B p1 p2 p3 p4 p5 p6 p7 N0 vw T0 fd fl fe r most n' en (W.setCell ⟨p3, 0, none⟩ (.int .i64 n')) := by
  have k : ∀ {q o}, q ≠ p3 → W.heap[q]? = some o → (W.setCell ⟨p3, 0, none⟩ (.int .i64 n')).heap[q]? = some o := fun hn hq => (heap_setCell_other W ⟨p3, 0, none⟩ _ _ hn).trans hq
  have t : ∀ {q c ty fr}, ty ≠ 3 → W.heap[q]? = some (.cells c ty fr) → q ≠ p3 := fun ht hq => cells_ne hq h.num ht
  refine ⟨k (t (by decide) h.fine) h.fine, k (t (by decide) h.ended) h.ended, heap_setCell_same W p3 0 _ _ _ h.num, k (t (by decide) h.want) h.want, k (t (by decide) h.flt) h.flt, k (Ne.symm h.ne36) h.rnd, k (Ne.symm h.ne37) h.most, own_blk h.row (fun q hq => ?_), h.bel.setCell (p := ⟨p3, 0, none⟩) h.low3 _, h.low1, h.low2, h.low3, h.ne12, h.ne36, h.ne37⟩
  obtain ⟨cur, hc⟩ := own_cells h.row q hq
  exact heap_setCell_other W ⟨p3, 0, none⟩ _ _ (t (by decide) hc)
theorem Jc.cells {w : World} {B p1 p2 p3 p4 p5 p6 p7 N0 : Nat} {vw : Value} {T0 : List Tk} {fd fl fe r most : Int} {n : Nat} {en : Bool} {W : World} (h : Jc w B p1 p2 p3 p4 p5 p6 p7 N0 vw T0 fd fl fe r most n en W) : W.cell? ⟨p1, 0, none⟩ = some (.bool true) ∧ W.cell? ⟨p2, 0, none⟩ = some (.bool en) ∧ W.cell? ⟨p3, 0, none⟩ = some (.int .i64 n) ∧ W.cell? ⟨p4, 0, none⟩ = some vw ∧ (W.cell? ⟨p5, 0, none⟩ = some (.int .i64 fd) ∧ W.cell? ⟨p5, 1, none⟩ = some (.int .i64 fl) ∧ W.cell? ⟨p5, 2, none⟩ = some (.int .i64 fe)) ∧ W.cell? ⟨p6, 0, none⟩ = some (.int .i64 r) ∧ W.cell? ⟨p7, 0, none⟩ = some (.int .i64 most) :=
  ⟨cell_of h.fine 0 _ rfl, cell_of h.ended 0 _ rfl, cell_of h.num 0 _ rfl, cell_of h.want 0 _ rfl, ⟨cell_of h.flt 0 _ rfl, cell_of h.flt 1 _ rfl, cell_of h.flt 2 _ rfl⟩, cell_of h.rnd 0 _ rfl, cell_of h.most 0 _ rfl⟩
theorem Jc.lts {w : World} {B p1 p2 p3 p4 p5 p6 p7 N0 : Nat} {vw : Value} {T0 : List Tk} {fd fl fe r most : Int} {n : Nat} {en : Bool} {W : World} (h : Jc w B p1 p2 p3 p4 p5 p6 p7 N0 vw T0 fd fl fe r most n en W) : p1 < W.heap.size ∧ p2 < W.heap.size ∧ p3 < W.heap.size ∧ p4 < W.heap.size ∧ p5 < W.heap.size ∧ p6 < W.heap.size ∧ p7 < W.heap.size :=
  ⟨(Array.getElem?_eq_some_iff.1 h.fine).1, (Array.getElem?_eq_some_iff.1 h.ended).1, (Array.getElem?_eq_some_iff.1 h.num).1, (Array.getElem?_eq_some_iff.1 h.want).1, (Array.getElem?_eq_some_iff.1 h.flt).1, (Array.getElem?_eq_some_iff.1 h.rnd).1, (Array.getElem?_eq_some_iff.1 h.most).1⟩
theorem Jc.frz {w : World} {B p1 p2 p3 p4 p5 p6 p7 N0 : Nat} {vw : Value} {T0 : List Tk} {fd fl fe r most : Int} {n : Nat} {en : Bool} {W : World} (h : Jc w B p1 p2 p3 p4 p5 p6 p7 N0 vw T0 fd fl fe r most n en W) : W.frozen? ⟨p1, 0, none⟩ = false ∧ W.frozen? ⟨p2, 0, none⟩ = false ∧ W.frozen? ⟨p3, 0, none⟩ = false :=
  ⟨by simp [World.frozen?, h.fine], by simp [World.frozen?, h.ended], by simp [World.frozen?, h.num]⟩
set_option maxRecDepth 100000 in
set_option maxHeartbeats 4000000 in
theorem clos_bad (w : World) (B p1 p2 p3 p4 p5 p6 p7 N0 : Nat) (aw : Option Addr) (cw : Nat) (T0 : List Tk) (fd fl fe r most : Int) (W : World) (hfe : fe ≠ 0) (h : Jc w B p1 p2 p3 p4 p5 p6 p7 N0 (.slice aw N0 cw) T0 fd fl fe r most N0 false W) :
    Calls Tryd.prog 16 #[.agg #[.int .i64 0, .int .i64 0, .int .i64 0, .string ⟨#[]⟩, .bool false], .agg #[.int .i64 fd, .int .i64 fl, .int .i64 fe], .pointer (some ⟨p1, 0, none⟩), .pointer (some ⟨p2, 0, none⟩), .pointer (some ⟨p3, 0, none⟩), .pointer (some ⟨p4, 0, none⟩), .pointer (some ⟨p5, 0, none⟩), .pointer (some ⟨p6, 0, none⟩), .pointer (some ⟨p7, 0, none⟩)] W fun e W' => e = .returned (.bool true) ∧ Jc w B p1 p2 p3 p4 p5 p6 p7 N0 (.slice aw N0 cw) T0 fd fl fe r most N0 true W' ∧ Kx [p1, p2, p3] W W' := by
  have hfe2 : (fe != 0) = true := by rw [bne_iff_ne]; exact hfe
  obtain ⟨c1, c2, c3, c4, ⟨c5, c6, c7⟩, c8, c9⟩ := h.cells
  obtain ⟨l1, l2, l3, l4, l5, l6, l7⟩ := h.lts
  have HJ := hide2 h
  clear h
  go_enter Tryd.func16, Tryd.ntmps16
  go_wp2_with fail
  have hba : Below W.heap.size W ((W.alloc (.cells #[.int .i64 0, .int .i64 0, .int .i64 0, .string ⟨#[]⟩, .bool false] 39)).alloc (.cells #[.int .i64 fd, .int .i64 fl, .int .i64 fe] 32)) := ((Below.refl _ W).alloc (Nat.le_refl _) _).alloc (by simp) _
  have k9 : ((W.alloc (.cells #[.int .i64 0, .int .i64 0, .int .i64 0, .string ⟨#[]⟩, .bool false] 39)).alloc (.cells #[.int .i64 fd, .int .i64 fl, .int .i64 fe] 32)).heap[W.heap.size]? = some (.cells #[.int .i64 0, .int .i64 0, .int .i64 0, .string ⟨#[]⟩, .bool false] 39 (0, 0)) :=
    (Go.heap_alloc_old (W.alloc (.cells #[.int .i64 0, .int .i64 0, .int .i64 0, .string ⟨#[]⟩, .bool false] 39)) _ (by simp)).trans (Go.heap_alloc_new W _)
  obtain ⟨W2, hW2⟩ : ∃ W2, (W.alloc (.cells #[.int .i64 0, .int .i64 0, .int .i64 0, .string ⟨#[]⟩, .bool false] 39)).alloc (.cells #[.int .i64 fd, .int .i64 fl, .int .i64 fe] 32) = W2 := ⟨_, rfl⟩
  rw [hW2] at hba k9 ⊢
  clear hW2 c1 c2 c3 c4 c5 c6 c7 c8 c9
  refine (fault_any fd fl fe W2).mono ?_
  rintro e W3 ⟨rfl, b3⟩
  have B3 : Below W.heap.size W W3 := hba.trans (b3.mono hba.size)
  have k3 := (b3.block _ (Array.getElem?_eq_some_iff.1 k9).1).trans k9
  obtain ⟨d0, d1, d2, d3, d4⟩ : W3.cell? ⟨W.heap.size, 0, none⟩ = some (.int .i64 0) ∧ W3.cell? ⟨W.heap.size, 1, none⟩ = some (.int .i64 0) ∧ W3.cell? ⟨W.heap.size, 2, none⟩ = some (.int .i64 0) ∧ W3.cell? ⟨W.heap.size, 3, none⟩ = some (.string ⟨#[]⟩) ∧ W3.cell? ⟨W.heap.size, 4, none⟩ = some (.bool false) := ⟨cell_of k3 0 _ rfl, cell_of k3 1 _ rfl, cell_of k3 2 _ rfl, cell_of k3 3 _ rfl, cell_of k3 4 _ rfl⟩
  have HB3 := hide2 B3
  clear b3 B3 k3 k9 hba
  go_wp2_with fail
  refine (token_any ⟨0, 0, 0, [], false⟩ W3).mono ?_
  rintro e W4 ⟨rfl, b4⟩
  have B4 := HB3.out.trans (b4.mono HB3.out.size)
  have HJ4 := hide2 (HJ.out.below B4)
  have HB4 := hide2 B4
  obtain ⟨f1, f2, f3⟩ := HJ4.out.frz
  obtain ⟨f1', f2', f3'⟩ := HJ4.out.setFine.frz
  obtain ⟨m1, m2, m3, _⟩ := HJ4.out.cells
  have hne := HJ4.out.ne12
  clear b4 B4 HB3 d0 d1 d2 d3 d4
  go_wp2
  go_ret
  refine ⟨rfl, HJ4.out.setFine.setEnd true, (Kx.of_below HB4.out).trans ((Kx.set _ (by simp) _ _).trans (Kx.set _ (by simp) _ _))⟩
set_option maxRecDepth 100000 in
set_option maxHeartbeats 4000000 in
theorem clos_ok (w : World) (B p1 p2 p3 p4 p5 p6 p7 N0 : Nat) (gw cw : Nat) (T0 : List Tk) (fd fl fe r most : Int) (n : Nat) (t : Tk) (W : World) (hN : N0 ≤ 65537) (hn : n < N0) (ht : T0[n]? = some t) (b : Bool) (hb : b = decide (0 < r ∨ ((n : Int) + 1) ≠ most)) (h : Jc w B p1 p2 p3 p4 p5 p6 p7 N0 (.slice (some ⟨gw, 0, none⟩) N0 cw) T0 fd fl fe r most n false W) :
    Calls Tryd.prog 16 #[.agg #[.int .i64 t.kind, .int .i64 t.line, .int .i64 t.col, .string ⟨t.text.toArray⟩, .bool t.q], .agg #[.int .i64 0, .int .i64 0, .int .i64 0], .pointer (some ⟨p1, 0, none⟩), .pointer (some ⟨p2, 0, none⟩), .pointer (some ⟨p3, 0, none⟩), .pointer (some ⟨p4, 0, none⟩), .pointer (some ⟨p5, 0, none⟩), .pointer (some ⟨p6, 0, none⟩), .pointer (some ⟨p7, 0, none⟩)] W fun e W' => e = .returned (.bool b) ∧ Jc w B p1 p2 p3 p4 p5 p6 p7 N0 (.slice (some ⟨gw, 0, none⟩) N0 cw) T0 fd fl fe r most (n + 1) false W' ∧ Kx [p1, p2, p3] W W' := by
  obtain ⟨kd, ln, cl, tx, q⟩ := t
  dsimp only
  obtain ⟨l1, l2, l3, l4, l5, l6, l7⟩ := h.lts
  have lw := (h.row.lt gw rfl).2
  have hba : Below W.heap.size W ((W.alloc (.cells #[.int .i64 kd, .int .i64 ln, .int .i64 cl, .string ⟨tx.toArray⟩, .bool q] 39)).alloc (.cells #[.int .i64 0, .int .i64 0, .int .i64 0] 32)) := ((Below.refl _ W).alloc (Nat.le_refl _) _).alloc (by simp) _
  have k9 : ((W.alloc (.cells #[.int .i64 kd, .int .i64 ln, .int .i64 cl, .string ⟨tx.toArray⟩, .bool q] 39)).alloc (.cells #[.int .i64 0, .int .i64 0, .int .i64 0] 32)).heap[W.heap.size]? = some (.cells #[.int .i64 kd, .int .i64 ln, .int .i64 cl, .string ⟨tx.toArray⟩, .bool q] 39 (0, 0)) :=
    (Go.heap_alloc_old (W.alloc (.cells #[.int .i64 kd, .int .i64 ln, .int .i64 cl, .string ⟨tx.toArray⟩, .bool q] 39)) _ (by simp)).trans (Go.heap_alloc_new W _)
  have HJ := hide2 h
  have n0 : (0 : Int) ≤ n := by omega
  have n1 : (n : Int) < N0 := by omega
  have HT := hide2 ht
  have Hb := hide2 hb
  clear h ht hb
  go_enter Tryd.func16, Tryd.ntmps16
  go_upto_region 5 with fail
  obtain ⟨W2, hW2⟩ : ∃ W2, (W.alloc (.cells #[.int .i64 kd, .int .i64 ln, .int .i64 cl, .string ⟨tx.toArray⟩, .bool q] 39)).alloc (.cells #[.int .i64 0, .int .i64 0, .int .i64 0] 32) = W2 := ⟨_, rfl⟩
  rw [hW2] at hba k9 ⊢
  have HJ2 := hide2 (HJ.out.below hba)
  have HB2 := hide2 hba
  obtain ⟨c1, c2, c3, c4, _, c8, c9⟩ := HJ2.out.cells
  obtain ⟨d0, d1, d2, d3, d4⟩ : W2.cell? ⟨W.heap.size, 0, none⟩ = some (.int .i64 kd) ∧ W2.cell? ⟨W.heap.size, 1, none⟩ = some (.int .i64 ln) ∧ W2.cell? ⟨W.heap.size, 2, none⟩ = some (.int .i64 cl) ∧ W2.cell? ⟨W.heap.size, 3, none⟩ = some (.string ⟨tx.toArray⟩) ∧ W2.cell? ⟨W.heap.size, 4, none⟩ = some (.bool q) := ⟨cell_of k9 0 _ rfl, cell_of k9 1 _ rfl, cell_of k9 2 _ rfl, cell_of k9 3 _ rfl, cell_of k9 4 _ rfl⟩
  have e0 := row_cell40 HJ2.out.row n _ HT.out 0 _ (by omega) rfl
  have e1 := row_cell40 HJ2.out.row n _ HT.out 1 _ (by omega) rfl
  have e2 := row_cell40 HJ2.out.row n _ HT.out 2 _ (by omega) rfl
  have e3 := row_cell40 HJ2.out.row n _ HT.out 3 _ (by omega) rfl
  have e4 := row_cell40 HJ2.out.row n _ HT.out 4 _ (by omega) rfl
  rw [Nat.add_zero] at e0
  dsimp only at e0 e1 e2 e3 e4
  have HC : Hid (Calls Tryd.prog 14 #[.agg #[.int .i64 kd, .int .i64 ln, .int .i64 cl, .string ⟨tx.toArray⟩, .bool q], .agg #[.int .i64 kd, .int .i64 ln, .int .i64 cl, .string ⟨tx.toArray⟩, .bool q]] W2.drew fun r w' => r = .returned (.bool true) ∧ Below W2.heap.size W2 w') :=
    (token_any ⟨kd, ln, cl, tx, q⟩ W2.drew).mono fun e w' ⟨he, hb⟩ => ⟨he, (below_drewN (Below.refl _ W2) 1).trans hb⟩
  clear hW2 hba k9
  go_cut [] (fun wx => ∃ W5, Hid (Below W2.heap.size W2 W5) ∧ wx = W5.setCell ⟨p1, 0, none⟩ (.bool true))
  case first =>
    go_region_with ((go_at_call 14; refine HC.out.mono ?_; rintro e w' ⟨rfl, hb1⟩; have f1 := (HJ2.out.below hb1).frz.1; have g1 := (HJ2.out.below hb1).cells.1; have HB1 := hide2 hb1; clear hb1))
    all_goals go_wp2
    all_goals go_meet
    all_goals exact ⟨w', HB1, rfl⟩
  case rest =>
    obtain ⟨W5, HB5, hwc⟩ := hcut
    have HJ6 : Hid (Jc w B p1 p2 p3 p4 p5 p6 p7 N0 (.slice (some ⟨gw, 0, none⟩) N0 cw) T0 fd fl fe r most n false wc) := hwc ▸ (HJ2.out.below HB5.out).setFine
    have HK6 : Hid (Kx [p1, p2, p3] W wc) := hwc ▸ (Kx.of_below HB2.out).trans ((Kx.of_below HB5.out).trans (Kx.set _ (by simp) _ _))
    clear hwc HB5 HB2 HJ2 HJ HC c1 c2 c3 c4 c8 c9 d0 d1 d2 d3 d4 e0 e1 e2 e3 e4
    obtain ⟨_, _, c3, _, _, c8, c9⟩ := HJ6.out.cells
    obtain ⟨_, _, f3⟩ := HJ6.out.frz
    have h36 := HJ6.out.ne36
    have h37 := HJ6.out.ne37
    have hn2 : (n : Int) ≤ 65537 := by omega
    have HF : Hid (Jc w B p1 p2 p3 p4 p5 p6 p7 N0 (.slice (some ⟨gw, 0, none⟩) N0 cw) T0 fd fl fe r most (n + 1) false (wc.setCell ⟨p3, 0, none⟩ (.int .i64 ((n : Int) + 1)))) := HJ6.out.setNum (n + 1)
    have HFK : Hid (Kx [p1, p2, p3] W (wc.setCell ⟨p3, 0, none⟩ (.int .i64 ((n : Int) + 1)))) := HK6.out.trans (Kx.set _ (by simp) _ _)
    clear HJ6 HK6
    by_cases hr : 0 < r
    · go_wp2
      go_ret
      exact ⟨ret_bool (by rw [Hb.out, decide_eq_true (.inl hr)]), HF.out, HFK.out⟩
    · by_cases hm : (n : Int) + 1 = most
      · have hm2 : (((n : Int) + 1) != most) = false := by simpa using hm
        rw [hm] at HF HFK
        go_wp2
        go_ret
        exact ⟨ret_bool (by rw [Hb.out, eq_comm, decide_eq_false_iff_not]; rintro (h | h); omega; exact h hm), HF.out, HFK.out⟩
      · have hm2 : (((n : Int) + 1) != most) = true := by simpa using hm
        go_wp2
        go_ret
        exact ⟨ret_bool (by rw [Hb.out, decide_eq_true (.inr hm)]), HF.out, HFK.out⟩
end Go.Proofs.YtjmgngocpokpgaaDoor
