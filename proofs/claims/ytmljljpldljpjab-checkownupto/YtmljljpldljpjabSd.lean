/-
  sorted: copies of resources, by their keys.
-/
import Derived.Test.YtmljljpldljpjabOl
import Derived.Test.YtmljljpldljpjabSk
namespace Go.Proofs.Ytmljljpldljpjab
open Go.RowKit
set_option linter.unusedVariables false
set_option linter.unusedSimpArgs false
set_option maxRecDepth 100000
theorem made_blk {w1 : World} {base g n : Nat} (h : w1.ownsRow base 3 1 (.slice (some ⟨g, 0, none⟩) n n) n (madeCells (Value.int .i64 0).cells (n * 1)).toList) : w1.heap[g]? = some (.cells (plc 0 n).toArray 3 (0, 0)) := by
  rcases h.2 with ⟨h, _⟩ | ⟨g', cap', cur, hv, _, hg, h1, h2, h3, h4⟩
  · cases h
  · cases hv
    rw [hg]
    have e : cur = (plc 0 n).toArray := by
      apply Array.toList_inj.1
      rw [List.take_of_length_le (by simp [h3])] at h4
      have e1 : (Value.int .i64 0).cells = #[.int .i64 0] := rfl
      rw [h4, e1, toList_madeCells_one, Nat.mul_one, plc_zero]
    rw [e]
/-- what is told sorted -/
structure SortP (L M : List Rs) : Prop where
  perm : M.Perm L
  ord : M.Pairwise (fun a b => ¬ klt b.key a.key)
def pickR (os : List Rx) (ps : List Nat) : List Rs := ps.filterMap fun i => (os[i]?).map Rx.toRs
theorem pickR_perm {os : List Rx} {ps : List Nat} (h : ps.Perm (List.range os.length)) : (pickR os ps).Perm (os.map Rx.toRs) := by
  unfold pickR
  refine (h.filterMap _).trans ?_
  have : (List.range os.length).filterMap (fun i => (os[i]?).map Rx.toRs) = os.map Rx.toRs := by
    clear h
    induction os with
    | nil => simp
    | cons a l ih =>
      rw [List.length_cons, List.range_succ_eq_map, List.filterMap_cons]
      simp only [List.getElem?_cons_zero, Option.map_some, List.map_cons, List.filterMap_map]
      congr 1
  rw [this]
theorem pickR_ord {os : List Rx} {ps : List Nat} (h : ps.Pairwise (fun i j => ∀ p q, os[i]? = some p → os[j]? = some q → ¬ klt q.key p.key)) : (pickR os ps).Pairwise (fun a b => ¬ klt b.key a.key) := by
  unfold pickR
  rw [List.pairwise_filterMap]
  refine h.imp fun {i j} hij b hb b' hb' => ?_
  simp only [Option.map_eq_some_iff] at hb hb'
  obtain ⟨p, hp, rfl⟩ := hb
  obtain ⟨q, hq, rfl⟩ := hb'
  exact hij p q hp hq
theorem pickR_snoc {os : List Rx} {ps : List Nat} {k i : Nat} {o : Rx} (hk : ps[k]? = some i) (hi : os[i]? = some o) : pickR os (ps.take (k + 1)) = pickR os (ps.take k) ++ [o.toRs] := by
  rw [List.take_add_one, hk]
  simp [pickR, hi]
/-- how the sort may be called -/
def SortC (W : World) (B : Nat) (blk : Nat) (os : List Rx) (n : Nat) : Prop :=
  Calls Try.prog 30 #[.slice (some ⟨blk, 0, none⟩) n n, .func (.func 31) #[] #[.pointer (some ⟨B, 0, none⟩)]] W fun e w' => e = .returned (.tuple #[]) ∧ ∃ ps, Sorts W w' blk os ps
theorem box_cell {W : World} {b : Nat} {v : Value} {t : TypeId} (h : W.heap[b]? = some (.cells #[v] t (0, 0))) : W.cell? ⟨b, 0, none⟩ = some v := by rw [cell_block h]; rfl
theorem plc_cell {W : World} {b i n : Nat} {t : TypeId} (h : W.heap[b]? = some (.cells (plc i n).toArray t (0, 0))) (j : Nat) (hj : j < n) : W.cell? ⟨b, j, none⟩ = some (.int .i64 (if j < i then (j : Int) else 0)) := by
  rw [cell_block h]; simp [plc, hj]
theorem plc_frozen {W : World} {b i n : Nat} {t : TypeId} (h : W.heap[b]? = some (.cells (plc i n).toArray t (0, 0))) (j : Nat) : W.frozen? ⟨b, j, none⟩ = false := by simp [World.frozen?, h]
set_option maxHeartbeats 16000000 in
theorem sorted_any (hnone : ∀ (W : World) (B blk : Nat), Calls Try.prog 30 #[.slice (some ⟨blk, 0, none⟩) 0 0, .func (.func 31) #[] #[.pointer (some ⟨B, 0, none⟩)]] W fun e w' => e = .returned (.tuple #[]) ∧ w' = W)
    (w : World) (a : Option Addr) (n c : Nat) (os : List Rx) (hL : Lr w a os) (hn : os.length = n) (hs : n ≤ 4194304) :
    Calls Try.prog 18 #[.slice a n c] w fun e w' => ∃ v qs, e = .returned v ∧ Ol w' w.heap.size v qs ∧ SortP (os.map Rx.toRs) (qs.map Rx.toRs) ∧ Below w.heap.size w w' := by
  have HL := hideL hL
  have HN := hideL hn
  have H0 := hideL hnone
  clear hL hn hnone
  obtain ⟨i3, hi3, hy0, hy1, hy2⟩ := info_parts Try.info3
  obtain ⟨i52, hi52, hx0, hx1, hx2⟩ := info_parts Try.info34
  have HB0 := hideL ((Gr.alloc w (.cells #[.slice a n c] 22 (0, 0))).below)
  have HX0 : Hid ((w.alloc (.cells #[.slice a n c] 22 (0, 0))).heap[w.heap.size]? = some (.cells #[.slice a n c] 22 (0, 0))) := heap_alloc_new w _
  have HZ0 : Hid ((w.alloc (.cells #[.slice a n c] 22 (0, 0))).heap.size = w.heap.size + 1) := by unfold Hid; simp
  have c0 := box_cell HX0.out
  go_enter Try.func18, Try.ntmps18
  go_wp2_with (at_make; refine wpList_make_full _ rfl (.tmp 9) (.tmp 9) 66 rfl (w.heap.size + 1) 3 i3 (.int .i64 0) 1 Try.underlying66 hi3 hy0 hy1 .i64 .i64 n n n rfl rfl rfl rfl (by rw [hy2]; omega) (by unfold maxLen; omega) (by simp) ?_; intro w1 hown1 hgrow1; have HP1 := hideL (made_blk hown1); have HG1 : Hid (Below (w.alloc (.cells #[.slice a n c] 22 (0, 0))).heap.size (w.alloc (.cells #[.slice a n c] 22 (0, 0))) w1) := (Below.refl _ _).grown hgrow1 (Nat.le_refl _) (fun k h => by cases h); clear hown1 hgrow1)
  have HX1 : Hid (w1.heap[w.heap.size]? = some (.cells #[.slice a n c] 22 (0, 0))) := HG1.out.cells HX0.out
  have HBE1 : Hid (Below w.heap.size w w1) := HB0.out.trans (HG1.out.mono HB0.out.size)
  clear HG1 HB0 HX0 HZ0 c0
  simp at HP1
  go_loopw [13] (fun t wr => ∃ (i : Nat), t = .int .i64 i ∧ i ≤ n ∧ wr.heap[w.heap.size + 1]? = some (.cells (plc i n).toArray 3 (0, 0)) ∧ But (w.heap.size + 1) w1 wr) (fun t _ => n - (intOf t).toNat)
  case atStart => exact ⟨0, rfl, by omega, HP1.out, But.refl _ _⟩
  case round =>
    obtain ⟨i, rfl, hi, hblk, hbut⟩ := hrel
    have i0 : (0 : Int) ≤ i := by omega
    have HBK := hideL hblk
    have HBT := hideL hbut
    clear hblk hbut HP1
    by_cases h3 : i < n
    · have h3' : (i : Int) < n := by omega
      have d0 := plc_cell HBK.out i h3
      have d1 := plc_frozen HBK.out i
      go_wp2
      go_roundw
      case rel =>
        refine ⟨i + 1, by go_num, by omega, ?_, HBT.out.trans (But.set _ _)⟩
        have := heap_setCell_same wr (w.heap.size + 1) i _ 3 (.int .i64 i) HBK.out
        rw [this, ← plc_set i n h3]
        simp
      case measure => simp [intOf]; omega
    · have h3' : ¬ (i : Int) < n := by omega
      obtain rfl : i = n := by omega
      have HX2 : Hid (wr.heap[w.heap.size]? = some (.cells #[.slice a i c] 22 (0, 0))) := (HBT.out.block _ (lt_of_block HX1.out) (by omega)).trans HX1.out
      have HB2 : Hid (Below w.heap.size w wr) := HBE1.out.trans (HBT.out.below HBE1.out.size (by omega))
      clear HBT HX1 HBE1
      have hlt : ∀ g o, a = some ⟨g, o, none⟩ → os ≠ [] → g < w.heap.size := by
        intro g o ha hne
        rcases os with _ | ⟨x, l⟩
        · exact absurd rfl hne
        · obtain ⟨g', o', e, hc⟩ := HL.out.row.at_ (i := 0) (x := x) rfl
          rw [ha] at e; cases e
          have := hc 0 _ rfl
          exact World.block_lt_of_cell? w _ this
      have HSC : Hid (SortC wr w.heap.size (w.heap.size + 1) os i) := by
        unfold Hid SortC
        by_cases hz : i = 0
        · subst hz
          refine (H0.out wr _ _).mono ?_
          rintro e w' ⟨rfl, rfl⟩
          refine ⟨rfl, [], ?_, List.Pairwise.nil, fun j p h => by simp at h, But.refl _ _⟩
          rw [HN.out]; simp
        · exact sort_some wr w.heap.size a i c i (w.heap.size + 1) os (box_cell HX2.out) (HL.out.row.below HB2.out) HN.out hs (by omega) (fun j hj => ⟨by rw [plc_cell HBK.out j hj, if_pos hj], plc_frozen HBK.out j⟩) (lt_of_block HBK.out) (by omega) (fun g o hg => by have := hlt g o hg (by rintro rfl; simp at HN; exact hz HN.out.symm); omega)
      clear hlt
      go_wp2_with fail
      refine HSC.out.mono ?_
      rintro e w4 ⟨rfl, ps, hS⟩
      have HX4 : Hid (w4.heap[w.heap.size]? = some (.cells #[.slice a i c] 22 (0, 0))) := (hS.but.block _ (lt_of_block HX2.out) (by omega)).trans HX2.out
      have HB4 : Hid (Below w.heap.size w w4) := HB2.out.trans (hS.but.below HB2.out.size (by omega))
      have HS := hideL hS
      have hpl : ps.length = i := by have := hS.perm.length_eq; simpa [HN.out] using this
      have HPL := hideL hpl
      clear hS hpl HSC HB2 HX2 HBK
      have c0 := box_cell HX4.out
      go_wp2_with (at_make; refine wpList_make_own _ rfl (.const (.int .i64 0)) (.tmp 25) 22 rfl w4.heap.size 34 i52 _ 8 Try.underlying22 hi52 hx0 hx1 .i64 .i64 (i : Int) i rfl rfl (by omega) (by rw [hx2]; omega) (by unfold maxLen; omega) (Nat.le_refl _) ?_; intro w5 hown5 hgrow5; have HO5 := hideL hown5; have HB5 := hideL (made_row hown5 hgrow5); clear hown5 hgrow5)
      clear c0
      go_loopw [5, 29] (fun v t wr => ∃ (k : Nat) (qs : List Rx), t = .int .i64 k ∧ k ≤ i ∧ qs.length = k ∧ Ol wr w4.heap.size v qs ∧ qs.map Rx.toRs = pickR os (ps.take k) ∧ Below w4.heap.size w4 wr) (fun _ t _ => i - (intOf t).toNat)
      case atStart => exact ⟨0, [], rfl, by omega, rfl, ⟨by simpa [rowsOf] using HO5.out, fun o ho => by cases ho⟩, by simp [pickR], HB5.out⟩
      case round =>
        obtain ⟨k, qs, rfl, hk, hql, hol, hqs, hbel⟩ := hrel
        have k0 : (0 : Int) ≤ k := by omega
        obtain ⟨va, vc, e, _, hvc, hvm⟩ := own_form hol.row
        rw [hql] at e hvc
        subst e
        have HOL := hideL hol
        have HB := hideL hbel
        have HQ := hideL hqs
        have HQL := hideL hql
        have HBW := hideL (HB4.out.trans (hbel.mono HB4.out.size))
        have hlm : k + 1 ≤ maxLen := by unfold maxLen; omega
        have hlb : (k + 1) * 136 ≤ 140737488355328 := by omega
        clear hol hbel hqs HO5 HB5 hql
        by_cases h5 : k < i
        · have h5' : (k : Int) < i := by omega
          rcases hkp : ps[k]? with _ | q
          · have := List.getElem?_eq_none_iff.1 hkp; have := HPL.out; omega
          have hql2 : q < i := by
            have := (HS.out.perm.mem_iff).1 (List.mem_of_getElem? hkp)
            rw [HN.out] at this; simpa using this
          rcases hko : os[q]? with _ | o
          · have := List.getElem?_eq_none_iff.1 hko; have := HN.out; omega
          have q0 : (0 : Int) ≤ q := by omega
          have q1 : (q : Int) < i := by omega
          have c1 := cell_of_below HB.out (HS.out.cells k q hkp)
          have c0 := box_cell (HB.out.cells HX4.out)
          obtain ⟨g, off, rfl, d0, d1, d2, d3, d4, d5, d6, d7⟩ := (HL.out.row.below HBW.out).cells hko
          have HPS := hideL (pickR_snoc hkp hko)
          have HRO := hideL (HL.out.each o (List.mem_of_getElem? hko))
          clear hkp hko
          go_wp2_with fail
          refine (copyOf_any wr o (HRO.out.below HBW.out)).mono ?_
          rintro e w6 ⟨p, rfl, hp1, hp2, hb6⟩
          have HB6 := hideL (HB.out.trans (hb6.mono HB.out.size))
          have HO6 := hideL (HOL.out.below hb6)
          have HR6 := hideL (hp2.low HB.out.size)
          have HP6 := hideL hp1
          clear hb6 hp1 hp2 d0 d1 d2 d3 d4 d5 d6 d7 c0 c1 HOL
          obtain ⟨ob, hob⟩ : ∃ ob, ob = Obj.cells #[.int .i64 p.kd, .string p.nm, .slice p.ea p.eps.length p.ec, .slice p.ta p.tgs.length p.tc, .string p.host, .slice p.ra p.rus.length p.rc, .string p.route, .bool p.del] 34 := ⟨_, rfl⟩
          have HOD : Hid ((w6.alloc ob).ownsRow w4.heap.size 34 8 (.slice va k vc) k (rowsOf Rx.row qs)) := by
            have := HO6.out.row.alloc ob
            rwa [HQL.out] at this
          have HND : Hid (∀ j u, p.row[j]? = some u → (w6.alloc ob).cell? ((⟨w6.heap.size, 0, none⟩ : Addr).add j) = some u) := by
            subst hob
            exact World.news_of_block (w := (w6.alloc _)) (Go.heap_alloc_new w6 _)
          have hszD : w4.heap.size ≤ (w6.alloc ob).heap.size := Nat.le_trans HB6.out.size (by simp)
          subst hob
          unfold Rx.val
          go_wp2_with (at_builtin; refine wpList_append_at _ rfl (.tmp 33) (.tmp 39) 22 rfl w4.heap.size 34 i52 _ 8 136 Try.underlying22 hi52 hx0 hx1 hx2 rfl (by decide) (.slice va k vc) k (rowsOf Rx.row qs) rfl HOD.out ⟨w6.heap.size, 0, none⟩ 1 1 p.row rfl rfl HND.out (rx_one _) hlm hlb hszD ?_; intro v3 w3 hown3 hgrow3 hat3; have HB3 := hideL (below_app (mm := 0) HO6.out.row HB6.out.size hgrow3); have HO3 := hideL (HO6.out.more (mm := 0) (by rw [HQL.out]; exact hown3) hgrow3 HR6.out); clear hown3 hgrow3 hat3)
          go_roundw
          case rel =>
            refine ⟨k + 1, qs ++ [p], by go_num, by omega, by simp [HQL.out], HO3.out, ?_, HB6.out.trans HB3.out⟩
            rw [List.map_append, HQ.out, HPS.out, List.map_cons, List.map_nil, HP6.out]
          case measure => simp [intOf]; omega
        · have h5' : ¬ (k : Int) < i := by omega
          obtain rfl : k = i := by omega
          go_wp2
          go_ret
          refine ⟨_, rfl, qs, HOL.out.low HB4.out.size, ⟨?_, ?_⟩, HBW.out⟩
          · rw [HQ.out, List.take_of_length_le (by have := HPL.out; omega)]; exact pickR_perm HS.out.perm
          · rw [HQ.out, List.take_of_length_le (by have := HPL.out; omega)]; exact pickR_ord HS.out.ord
end Go.Proofs.Ytmljljpldljpjab
