/-
  The walk of put.
-/
import Derived.Test.YtmljljpldljpjabPu
import Derived.Deep.QuietTactic
namespace Go.Proofs.Ytmljljpldljpjab
open Go.RowKit
set_option linter.unusedVariables false
set_option linter.unusedSimpArgs false
set_option maxRecDepth 100000
theorem none_src {os : List Rx} (h : os.length = 0) (W : World) : (((none : Option Addr) = none ∧ (0 : Nat) = 0 ∧ (0 : Nat) = 0 ∧ rowsOf Rx.row (os.drop 0) = []) ∨ ∃ ad, (none : Option Addr) = some ad ∧ (rowsOf Rx.row (os.drop 0)).length = 0 * 8 ∧ ∀ j u, (rowsOf Rx.row (os.drop 0))[j]? = some u → W.cell? (ad.add j) = some u) := by
  obtain rfl : os = [] := List.length_eq_zero_iff.1 h
  exact .inl ⟨rfl, rfl, rfl, rfl⟩
theorem rest_plain {w : World} {g off n k : Nat} {os : List Rx} (h : Cel w (some ⟨g, off, none⟩) 8 (os.map Rx.row)) (hn : os.length = n) (hk : k ≤ n) :
    (rowsOf Rx.row (os.drop k)).length = (n - k) * 8 ∧ ∀ j u, (rowsOf Rx.row (os.drop k))[j]? = some u → w.cell? ((⟨g, off + k * 8, none⟩ : Addr).add j) = some u := by
  have := rest_src h hn hk
  rw [Go.WideShapes.add_plain] at this
  exact this
theorem put_gl {w w4 : World} {a : Option Addr} {n i : Nat} {os : List Rx} {r : Rx} {v4 : Value} (hL : Lr w a os) (hr : Rin w r) (hn : os.length = n) (hc : cntB (os.map Rx.toRs) r.toRs = i) (hi : i ≤ n)
    (ho : w4.ownsRow w.heap.size 34 8 v4 (i + 1 + (n - i)) (rowsOf Rx.row (os.take i) ++ r.row ++ rowsOf Rx.row (os.drop i))) (hb : Below w.heap.size w w4) : Gl w w4 v4 (putX os r) := by
  have e : putX os r = os.take i ++ [r] ++ os.drop i := by unfold putX; rw [hc]
  rw [e]
  refine ⟨?_, fun o ho' => ?_, hb⟩
  · have hl : (os.take i ++ [r] ++ os.drop i).length = i + 1 + (n - i) := by simp; omega
    rw [hl, rowsOf_append, rowsOf_append, rowsOf_one]
    exact ho
  · rcases List.mem_append.1 ho' with h | h
    · rcases List.mem_append.1 h with h | h
      · exact hL.each o (List.mem_of_mem_take h)
      · simp at h; subst h; exact hr
    · exact hL.each o (List.mem_of_mem_drop h)
set_option maxHeartbeats 16000000 in
theorem put_any (w : World) (a : Option Addr) (n c : Nat) (os : List Rx) (r : Rx) (hL : Lr w a os) (hr : Rin w r) (hn : os.length = n) (hs : n ≤ 4194304) (hf : Frm a n c) :
    Calls Try.prog 24 #[.slice a n c, r.val] w fun e w' => ∃ v, e = .returned v ∧ Gl w w' v (putX os r) := by
  have HL := hideL hL
  have HR := hideL hr
  have HN := hideL hn
  have HFR := hideL hf
  clear hL hr hn hf
  obtain ⟨i52, hi52, hx0, hx1, hx2⟩ := info_parts Try.info34
  obtain ⟨w0, hw0⟩ : ∃ w0, w.alloc (boxO r) = w0 := ⟨_, rfl⟩
  have HT : Hid (Gr w w0) := by rw [← hw0]; exact Gr.alloc _ _
  have HBX : Hid (∀ W, Gr w0 W → W.heap[w.heap.size]? = some (boxO r)) := fun W hW => hW.below.cells (by rw [← hw0]; exact heap_alloc_new w _)
  unfold boxO at hw0
  go_enter Try.func24, Try.ntmps24
  unfold Rx.val
  go_wp2_with fail
  try rw [hw0]
  clear hw0
  go_loopw [5] (fun t wr => ∃ (i : Nat), t = .int .i64 i ∧ i ≤ n ∧ Gr w0 wr ∧ Hid (∀ (j : Nat) (x : Rs), j < i → (os.map Rx.toRs)[j]? = some x → lessB x r.toRs = true)) (fun t _ => n - (intOf t).toNat)
  case atStart => exact ⟨0, rfl, by omega, Gr.refl _, fun j x hj => by omega⟩
  case round =>
    obtain ⟨i, rfl, hi, hgr, HF⟩ := hrel
    have HG := hideL hgr
    clear hgr
    have i0 : (0 : Int) ≤ i := by omega
    obtain ⟨z0, z1, z2, z3, z4, z5, z6, z7⟩ := box8 (HBX.out wr HG.out)
    have HREST : Hid (∀ (wq : World), Gr w0 wq → cntB (os.map Rx.toRs) r.toRs = i → True) := fun _ _ _ => trivial
    by_cases h3 : i < n
    · have h3' : (i : Int) < n := by omega
      rcases hki : os[i]? with _ | o
      · have := List.getElem?_eq_none_iff.1 hki; have := HN.out; omega
      have HKO : Hid ((os.map Rx.toRs)[i]? = some o.toRs) := by unfold Hid; simp [hki]
      obtain ⟨g, off, rfl, d0, d1, d2, d3, d4, d5, d6, d7⟩ := (HL.out.row.below (HT.out.trans HG.out).below).cells hki
      have HS := hideL (fun (W' : World) (h : Gr wr W') => show (_ ∧ _ ∧ _ ∧ _ ∧ _ ∧ _ ∧ _ ∧ _ ∧ _ ∧ _ ∧ _ ∧ _ ∧ _ ∧ _ ∧ _ ∧ _) from ⟨h.cell d0, h.cell d1, h.cell d2, h.cell d3, h.cell d4, h.cell d5, h.cell d6, h.cell d7, h.cell z0, h.cell z1, h.cell z2, h.cell z3, h.cell z4, h.cell z5, h.cell z6, h.cell z7⟩)
      have HC : Hid (∀ W, Calls Try.prog 38 #[.agg #[.int .i64 o.kd, .string o.nm, .slice o.ea o.eps.length o.ec, .slice o.ta o.tgs.length o.tc, .string o.host, .slice o.ra o.rus.length o.rc, .string o.route, .bool o.del], .agg #[.int .i64 r.kd, .string r.nm, .slice r.ea r.eps.length r.ec, .slice r.ta r.tgs.length r.tc, .string r.host, .slice r.ra r.rus.length r.rc, .string r.route, .bool r.del]] W fun e w' => e = .returned (.bool (lessB o.toRs r.toRs)) ∧ Gr W w') := fun W => less_any W o r
      clear hki
      go_wp2_with fail
      go_region_held3 (fun w' => w'.cell? ⟨g, off + i * 8, none⟩ = some (.int .i64 o.kd) ∧ w'.cell? ⟨g, off + i * 8 + 1, none⟩ = some (.string o.nm) ∧ w'.cell? ⟨g, off + i * 8 + 2, none⟩ = some (.slice o.ea o.eps.length o.ec) ∧ w'.cell? ⟨g, off + i * 8 + 3, none⟩ = some (.slice o.ta o.tgs.length o.tc) ∧ w'.cell? ⟨g, off + i * 8 + 4, none⟩ = some (.string o.host) ∧ w'.cell? ⟨g, off + i * 8 + 5, none⟩ = some (.slice o.ra o.rus.length o.rc) ∧ w'.cell? ⟨g, off + i * 8 + 6, none⟩ = some (.string o.route) ∧ w'.cell? ⟨g, off + i * 8 + 7, none⟩ = some (.bool o.del)
         ∧ w'.cell? ⟨w.heap.size, 0, none⟩ = some (.int .i64 r.kd) ∧ w'.cell? ⟨w.heap.size, 1, none⟩ = some (.string r.nm) ∧ w'.cell? ⟨w.heap.size, 2, none⟩ = some (.slice r.ea r.eps.length r.ec) ∧ w'.cell? ⟨w.heap.size, 3, none⟩ = some (.slice r.ta r.tgs.length r.tc) ∧ w'.cell? ⟨w.heap.size, 4, none⟩ = some (.string r.host) ∧ w'.cell? ⟨w.heap.size, 5, none⟩ = some (.slice r.ra r.rus.length r.rc) ∧ w'.cell? ⟨w.heap.size, 6, none⟩ = some (.string r.route) ∧ w'.cell? ⟨w.heap.size, 7, none⟩ = some (.bool r.del)) (go_keep) (first
        | (go_at_call 38; refine (HC.out _).mono ?_; rintro e w2 ⟨rfl, hg2⟩; have HG2 := hideL ((Gr.drewN wr 1).trans hg2); obtain ⟨p1, p2, p3, p4, p5, p6, p7, p8, p9, p10, p11, p12, p13, p14, p15, p16⟩ := HS.out w2 HG2.out; clear hg2))
      cases hlb : lessB o.toRs r.toRs
      · have HCN : Hid (cntB (os.map Rx.toRs) r.toRs = i) := cnt_stop HF.out (fun x hx => by rw [HKO.out] at hx; cases hx; exact hlb) (by simp; have := HN.out; omega)
        have HGQ : Hid (Gr w0 w2) := HG.out.trans HG2.out
        have hcl : n ≤ c ∧ c ≤ maxLen := by
          rcases HFR.out with ⟨h, _⟩ | ⟨x, _, h1, h2⟩
          · cases h
          · exact ⟨h1, h2⟩
        obtain ⟨hcl1, hcl2⟩ := hcl
        have hic : (i : Int) < c := by omega
        clear d0 d1 d2 d3 d4 d5 d6 d7 z0 z1 z2 z3 z4 z5 z6 z7 p1 p2 p3 p4 p5 p6 p7 p8 p9 p10 p11 p12 p13 p14 p15 p16 hlb HF HKO
        have SRC1 := hideL (front_src (c := c) (k := i) (HL.out.row.below (HT.out.trans HGQ.out).below) HN.out (by omega) HFR.out)
        have NIL : Hid (w2.ownsRow w.heap.size 34 8 (.slice none 0 0) 0 []) := ⟨by simp, .inl ⟨rfl, rfl⟩⟩
        have hszq : w.heap.size ≤ w2.heap.size := (HT.out.trans HGQ.out).below.size
        go_wp2_with first
          | (at_builtin; refine wpList_append_src _ rfl (.tmp 30) (.tmp 33) 22 rfl w.heap.size 34 i52 _ 8 136 Try.underlying22 hi52 hx0 hx1 hx2 rfl (by decide) (.slice a2 (i + 1) c2) (i + 1) _ rfl HO2.out (some (⟨g, off + i * 8, none⟩ : Addr)) (n - i) (c - i) (rowsOf Rx.row (os.drop i)) rfl SRC3.out (rows_oneC Rx.row rx_one _) (by unfold maxLen; omega) (by omega) hsz2 ?_; intro v4 w4 hown4 hgrow4; have HB4 := hideL (HB2.out.grown hgrow4 HB2.out.size (fun k hk => (HO2.out.lt k hk).1)); have HO4 := hideL hown4; clear hown4 hgrow4)
          | (at_builtin; refine wpList_append_at _ rfl (.tmp 26) (.tmp 28) 22 rfl w.heap.size 34 i52 _ 8 136 Try.underlying22 hi52 hx0 hx1 hx2 rfl (by decide) (.slice a1 i c1) i (rowsOf Rx.row (os.take i)) rfl HOD.out ⟨w1.heap.size, 0, none⟩ 1 1 r.row rfl rfl HND.out (rx_one _) (by unfold maxLen; omega) (by omega) hszD ?_; intro v2 w9 hown2 hgrow2 hat2; obtain ⟨a2, c2, rfl, _⟩ := own_form hown2; have HB2 := hideL (HB1.out.trans (below_app (mm := 0) HO1.out HB1.out.size hgrow2)); have HO2 := hideL hown2; have hsz2 := HB2.out.size; have SRC3 : Hid (((some (⟨g, off + i * 8, none⟩ : Addr)) = none ∧ n - i = 0 ∧ c - i = 0 ∧ rowsOf Rx.row (os.drop i) = []) ∨ ∃ ad, (some (⟨g, off + i * 8, none⟩ : Addr)) = some ad ∧ (rowsOf Rx.row (os.drop i)).length = (n - i) * 8 ∧ ∀ j u, (rowsOf Rx.row (os.drop i))[j]? = some u → w9.cell? (ad.add j) = some u) := .inr ⟨_, rfl, (rest_plain (k := i) (HL.out.row.below HB2.out) HN.out (by omega)).1, (rest_plain (k := i) (HL.out.row.below HB2.out) HN.out (by omega)).2⟩; clear hown2 hgrow2 hat2)
          | (at_builtin; refine wpList_append_src _ rfl (.tmp 21) (.tmp 24) 22 rfl w.heap.size 34 i52 _ 8 136 Try.underlying22 hi52 hx0 hx1 hx2 rfl (by decide) (.slice none 0 0) 0 [] rfl NIL.out (some ⟨g, off, none⟩) i c (rowsOf Rx.row (os.take i)) rfl SRC1.out (rows_oneC Rx.row rx_one _) (by unfold maxLen; omega) (by omega) hszq ?_; intro v1 w1 hown1 hgrow1; rw [Nat.zero_add, List.nil_append] at hown1; obtain ⟨a1, c1, rfl, _⟩ := own_form hown1; have hbq : Below w2.heap.size w2 w1 := (Below.refl _ w2).grown hgrow1 (Nat.le_refl _) (fun k h => by cases h); have HB1 := hideL ((HT.out.trans HGQ.out).below.trans (hbq.mono (HT.out.trans HGQ.out).below.size)); have HO1 := hideL hown1; obtain ⟨y0, y1, y2, y3, y4, y5, y6, y7⟩ := box8 (hbq.cells (HBX.out w2 HGQ.out)); have HOD : Hid ((w1.alloc (Obj.cells #[.int .i64 r.kd, .string r.nm, .slice r.ea r.eps.length r.ec, .slice r.ta r.tgs.length r.tc, .string r.host, .slice r.ra r.rus.length r.rc, .string r.route, .bool r.del] 34)).ownsRow w.heap.size 34 8 (.slice a1 i c1) i (rowsOf Rx.row (os.take i))) := HO1.out.alloc _; have HND : Hid (∀ j u, r.row[j]? = some u → (w1.alloc (Obj.cells #[.int .i64 r.kd, .string r.nm, .slice r.ea r.eps.length r.ec, .slice r.ta r.tgs.length r.tc, .string r.host, .slice r.ra r.rus.length r.rc, .string r.route, .bool r.del] 34)).cell? ((⟨w1.heap.size, 0, none⟩ : Addr).add j) = some u) := World.news_of_block (w := (w1.alloc (Obj.cells #[.int .i64 r.kd, .string r.nm, .slice r.ea r.eps.length r.ec, .slice r.ta r.tgs.length r.tc, .string r.host, .slice r.ra r.rus.length r.rc, .string r.route, .bool r.del] 34))) (Go.heap_alloc_new w1 _); have hszD : w.heap.size ≤ (w1.alloc (Obj.cells #[.int .i64 r.kd, .string r.nm, .slice r.ea r.eps.length r.ec, .slice r.ta r.tgs.length r.tc, .string r.host, .slice r.ra r.rus.length r.rc, .string r.route, .bool r.del] 34)).heap.size := Nat.le_trans HB1.out.size (by simp); clear hown1 hgrow1 hbq)
        go_ret
        exact ⟨_, rfl, put_gl HL.out HR.out HN.out HCN.out (by omega) HO4.out HB4.out⟩
      · have HLT : Hid (∀ (j : Nat) (x : Rs), j < i + 1 → (os.map Rx.toRs)[j]? = some x → lessB x r.toRs = true) := fun j x hj hx => by
          by_cases hji : j < i
          · exact HF.out j x hji hx
          · obtain rfl : j = i := by omega
            rw [HKO.out] at hx; cases hx; exact hlb
        clear hlb
        go_wp2
        go_roundw
        case rel => exact ⟨i + 1, by go_num, by omega, HG.out.trans HG2.out, HLT.out⟩
        case measure => simp [intOf]; omega
    · have h3' : ¬ (i : Int) < n := by omega
      obtain rfl : i = n := by omega
      have HCN : Hid (cntB (os.map Rx.toRs) r.toRs = i) := cnt_stop HF.out (fun x hx => by have := (List.getElem?_eq_some_iff.1 hx).1; simp at this; have := HN.out; omega) (by simp; have := HN.out; omega)
      have d2 : decide (i < i) = false := by simp
      rcases HFR.out with ⟨rfl, h2, h4⟩ | ⟨x, rfl, h1, h2⟩
      · subst h2 h4
        go_wp2_with fail
        go_quiet (fail)
        have HGQ : Hid (Gr w0 (wr.drewN nq)) := HG.out.trans (Gr.drewN _ _)
        generalize wr.drewN nq = wz at HGQ ⊢
        clear z0 z1 z2 z3 z4 z5 z6 z7 HF
        have SRC1 := hideL (front_src (c := 0) (k := 0) (HL.out.row.below (HT.out.trans HGQ.out).below) HN.out (by omega) HFR.out)
        have NIL : Hid (wz.ownsRow w.heap.size 34 8 (.slice none 0 0) 0 []) := ⟨by simp, .inl ⟨rfl, rfl⟩⟩
        have hszq : w.heap.size ≤ wz.heap.size := (HT.out.trans HGQ.out).below.size
        go_wp2_with first
          | (at_builtin; refine wpList_append_src _ rfl (.tmp 30) (.tmp 33) 22 rfl w.heap.size 34 i52 _ 8 136 Try.underlying22 hi52 hx0 hx1 hx2 rfl (by decide) (.slice a2 (0 + 1) c2) (0 + 1) _ rfl HO2.out none 0 0 (rowsOf Rx.row (os.drop 0)) rfl SRC3.out (rows_oneC Rx.row rx_one _) (by unfold maxLen; omega) (by omega) hsz2 ?_; intro v4 w4 hown4 hgrow4; have HB4 := hideL (HB2.out.grown hgrow4 HB2.out.size (fun k hk => (HO2.out.lt k hk).1)); have HO4 := hideL hown4; clear hown4 hgrow4)
          | (at_builtin; refine wpList_append_at _ rfl (.tmp 26) (.tmp 28) 22 rfl w.heap.size 34 i52 _ 8 136 Try.underlying22 hi52 hx0 hx1 hx2 rfl (by decide) (.slice a1 0 c1) 0 (rowsOf Rx.row (os.take 0)) rfl HOD.out ⟨w1.heap.size, 0, none⟩ 1 1 r.row rfl rfl HND.out (rx_one _) (by unfold maxLen; omega) (by omega) hszD ?_; intro v2 w9 hown2 hgrow2 hat2; obtain ⟨a2, c2, rfl, _⟩ := own_form hown2; have HB2 := hideL (HB1.out.trans (below_app (mm := 0) HO1.out HB1.out.size hgrow2)); have HO2 := hideL hown2; have hsz2 := HB2.out.size; have SRC3 : Hid (((none : Option Addr) = none ∧ (0 : Nat) = 0 ∧ (0 : Nat) = 0 ∧ rowsOf Rx.row (os.drop 0) = []) ∨ ∃ ad, (none : Option Addr) = some ad ∧ (rowsOf Rx.row (os.drop 0)).length = 0 * 8 ∧ ∀ j u, (rowsOf Rx.row (os.drop 0))[j]? = some u → w9.cell? (ad.add j) = some u) := none_src HN.out w9; clear hown2 hgrow2 hat2)
          | (at_builtin; refine wpList_append_src _ rfl (.tmp 21) (.tmp 24) 22 rfl w.heap.size 34 i52 _ 8 136 Try.underlying22 hi52 hx0 hx1 hx2 rfl (by decide) (.slice none 0 0) 0 [] rfl NIL.out none 0 0 (rowsOf Rx.row (os.take 0)) rfl SRC1.out (rows_oneC Rx.row rx_one _) (by unfold maxLen; omega) (by omega) hszq ?_; intro v1 w1 hown1 hgrow1; rw [Nat.zero_add, List.nil_append] at hown1; obtain ⟨a1, c1, rfl, _⟩ := own_form hown1; have hbq : Below wz.heap.size wz w1 := (Below.refl _ wz).grown hgrow1 (Nat.le_refl _) (fun k h => by cases h); have HB1 := hideL ((HT.out.trans HGQ.out).below.trans (hbq.mono (HT.out.trans HGQ.out).below.size)); have HO1 := hideL hown1; obtain ⟨y0, y1, y2, y3, y4, y5, y6, y7⟩ := box8 (hbq.cells (HBX.out wz HGQ.out)); have HOD : Hid ((w1.alloc (Obj.cells #[.int .i64 r.kd, .string r.nm, .slice r.ea r.eps.length r.ec, .slice r.ta r.tgs.length r.tc, .string r.host, .slice r.ra r.rus.length r.rc, .string r.route, .bool r.del] 34)).ownsRow w.heap.size 34 8 (.slice a1 0 c1) 0 (rowsOf Rx.row (os.take 0))) := HO1.out.alloc _; have HND : Hid (∀ j u, r.row[j]? = some u → (w1.alloc (Obj.cells #[.int .i64 r.kd, .string r.nm, .slice r.ea r.eps.length r.ec, .slice r.ta r.tgs.length r.tc, .string r.host, .slice r.ra r.rus.length r.rc, .string r.route, .bool r.del] 34)).cell? ((⟨w1.heap.size, 0, none⟩ : Addr).add j) = some u) := World.news_of_block (w := (w1.alloc (Obj.cells #[.int .i64 r.kd, .string r.nm, .slice r.ea r.eps.length r.ec, .slice r.ta r.tgs.length r.tc, .string r.host, .slice r.ra r.rus.length r.rc, .string r.route, .bool r.del] 34))) (Go.heap_alloc_new w1 _); have hszD : w.heap.size ≤ (w1.alloc (Obj.cells #[.int .i64 r.kd, .string r.nm, .slice r.ea r.eps.length r.ec, .slice r.ta r.tgs.length r.tc, .string r.host, .slice r.ra r.rus.length r.rc, .string r.route, .bool r.del] 34)).heap.size := Nat.le_trans HB1.out.size (by simp); clear hown1 hgrow1 hbq)
        go_ret
        exact ⟨_, rfl, put_gl HL.out HR.out HN.out HCN.out (by omega) HO4.out HB4.out⟩
      · have hcm : (i : Int) ≤ c := by omega
        by_cases hic : i = c
        · subst hic
          go_wp2_with fail
          go_quiet (fail)
          have HGQ : Hid (Gr w0 (wr.drewN nq)) := HG.out.trans (Gr.drewN _ _)
          generalize wr.drewN nq = wz at HGQ ⊢
          clear z0 z1 z2 z3 z4 z5 z6 z7 HF
          have SRC1 := hideL (front_src (c := i) (k := i) (HL.out.row.below (HT.out.trans HGQ.out).below) HN.out (by omega) HFR.out)
          have NIL : Hid (wz.ownsRow w.heap.size 34 8 (.slice none 0 0) 0 []) := ⟨by simp, .inl ⟨rfl, rfl⟩⟩
          have hszq : w.heap.size ≤ wz.heap.size := (HT.out.trans HGQ.out).below.size
          go_wp2_with first
            | (at_builtin; refine wpList_append_src _ rfl (.tmp 30) (.tmp 33) 22 rfl w.heap.size 34 i52 _ 8 136 Try.underlying22 hi52 hx0 hx1 hx2 rfl (by decide) (.slice a2 (i + 1) c2) (i + 1) _ rfl HO2.out (some x) 0 0 (rowsOf Rx.row (os.drop i)) rfl SRC3.out (rows_oneC Rx.row rx_one _) (by unfold maxLen; omega) (by omega) hsz2 ?_; intro v4 w4 hown4 hgrow4; have HB4 := hideL (HB2.out.grown hgrow4 HB2.out.size (fun k hk => (HO2.out.lt k hk).1)); have HO4 := hideL hown4; clear hown4 hgrow4)
            | (at_builtin; refine wpList_append_at _ rfl (.tmp 26) (.tmp 28) 22 rfl w.heap.size 34 i52 _ 8 136 Try.underlying22 hi52 hx0 hx1 hx2 rfl (by decide) (.slice a1 i c1) i (rowsOf Rx.row (os.take i)) rfl HOD.out ⟨w1.heap.size, 0, none⟩ 1 1 r.row rfl rfl HND.out (rx_one _) (by unfold maxLen; omega) (by omega) hszD ?_; intro v2 w9 hown2 hgrow2 hat2; obtain ⟨a2, c2, rfl, _⟩ := own_form hown2; have HB2 := hideL (HB1.out.trans (below_app (mm := 0) HO1.out HB1.out.size hgrow2)); have HO2 := hideL hown2; have hsz2 := HB2.out.size; have SRC3 : Hid (((some x) = none ∧ 0 = 0 ∧ 0 = 0 ∧ rowsOf Rx.row (os.drop i) = []) ∨ ∃ ad, (some x) = some ad ∧ (rowsOf Rx.row (os.drop i)).length = (0) * 8 ∧ ∀ j u, (rowsOf Rx.row (os.drop i))[j]? = some u → w9.cell? (ad.add j) = some u) := .inr ⟨_, rfl, by rw [List.drop_eq_nil_of_le (by have := HN.out; omega)]; simp [rowsOf], fun j u hu => by rw [List.drop_eq_nil_of_le (by have := HN.out; omega)] at hu; simp [rowsOf] at hu⟩; clear hown2 hgrow2 hat2)
            | (at_builtin; refine wpList_append_src _ rfl (.tmp 21) (.tmp 24) 22 rfl w.heap.size 34 i52 _ 8 136 Try.underlying22 hi52 hx0 hx1 hx2 rfl (by decide) (.slice none 0 0) 0 [] rfl NIL.out (some x) i i (rowsOf Rx.row (os.take i)) rfl SRC1.out (rows_oneC Rx.row rx_one _) (by unfold maxLen; omega) (by omega) hszq ?_; intro v1 w1 hown1 hgrow1; rw [Nat.zero_add, List.nil_append] at hown1; obtain ⟨a1, c1, rfl, _⟩ := own_form hown1; have hbq : Below wz.heap.size wz w1 := (Below.refl _ wz).grown hgrow1 (Nat.le_refl _) (fun k h => by cases h); have HB1 := hideL ((HT.out.trans HGQ.out).below.trans (hbq.mono (HT.out.trans HGQ.out).below.size)); have HO1 := hideL hown1; obtain ⟨y0, y1, y2, y3, y4, y5, y6, y7⟩ := box8 (hbq.cells (HBX.out wz HGQ.out)); have HOD : Hid ((w1.alloc (Obj.cells #[.int .i64 r.kd, .string r.nm, .slice r.ea r.eps.length r.ec, .slice r.ta r.tgs.length r.tc, .string r.host, .slice r.ra r.rus.length r.rc, .string r.route, .bool r.del] 34)).ownsRow w.heap.size 34 8 (.slice a1 i c1) i (rowsOf Rx.row (os.take i))) := HO1.out.alloc _; have HND : Hid (∀ j u, r.row[j]? = some u → (w1.alloc (Obj.cells #[.int .i64 r.kd, .string r.nm, .slice r.ea r.eps.length r.ec, .slice r.ta r.tgs.length r.tc, .string r.host, .slice r.ra r.rus.length r.rc, .string r.route, .bool r.del] 34)).cell? ((⟨w1.heap.size, 0, none⟩ : Addr).add j) = some u) := World.news_of_block (w := (w1.alloc (Obj.cells #[.int .i64 r.kd, .string r.nm, .slice r.ea r.eps.length r.ec, .slice r.ta r.tgs.length r.tc, .string r.host, .slice r.ra r.rus.length r.rc, .string r.route, .bool r.del] 34))) (Go.heap_alloc_new w1 _); have hszD : w.heap.size ≤ (w1.alloc (Obj.cells #[.int .i64 r.kd, .string r.nm, .slice r.ea r.eps.length r.ec, .slice r.ta r.tgs.length r.tc, .string r.host, .slice r.ra r.rus.length r.rc, .string r.route, .bool r.del] 34)).heap.size := Nat.le_trans HB1.out.size (by simp); clear hown1 hgrow1 hbq)
          go_ret
          exact ⟨_, rfl, put_gl HL.out HR.out HN.out HCN.out (by omega) (by simpa using HO4.out) HB4.out⟩
        · have hic' : (i : Int) < c := by omega
          go_wp2_with fail
          go_quiet (fail)
          have HGQ : Hid (Gr w0 (wr.drewN nq)) := HG.out.trans (Gr.drewN _ _)
          generalize wr.drewN nq = wz at HGQ ⊢
          clear z0 z1 z2 z3 z4 z5 z6 z7 HF
          have SRC1 := hideL (front_src (c := c) (k := i) (HL.out.row.below (HT.out.trans HGQ.out).below) HN.out (by omega) HFR.out)
          have NIL : Hid (wz.ownsRow w.heap.size 34 8 (.slice none 0 0) 0 []) := ⟨by simp, .inl ⟨rfl, rfl⟩⟩
          have hszq : w.heap.size ≤ wz.heap.size := (HT.out.trans HGQ.out).below.size
          go_wp2_with first
            | (at_builtin; refine wpList_append_src _ rfl (.tmp 30) (.tmp 33) 22 rfl w.heap.size 34 i52 _ 8 136 Try.underlying22 hi52 hx0 hx1 hx2 rfl (by decide) (.slice a2 (i + 1) c2) (i + 1) _ rfl HO2.out (some (x.add (i * 8))) 0 (c - i) (rowsOf Rx.row (os.drop i)) rfl SRC3.out (rows_oneC Rx.row rx_one _) (by unfold maxLen; omega) (by omega) hsz2 ?_; intro v4 w4 hown4 hgrow4; have HB4 := hideL (HB2.out.grown hgrow4 HB2.out.size (fun k hk => (HO2.out.lt k hk).1)); have HO4 := hideL hown4; clear hown4 hgrow4)
            | (at_builtin; refine wpList_append_at _ rfl (.tmp 26) (.tmp 28) 22 rfl w.heap.size 34 i52 _ 8 136 Try.underlying22 hi52 hx0 hx1 hx2 rfl (by decide) (.slice a1 i c1) i (rowsOf Rx.row (os.take i)) rfl HOD.out ⟨w1.heap.size, 0, none⟩ 1 1 r.row rfl rfl HND.out (rx_one _) (by unfold maxLen; omega) (by omega) hszD ?_; intro v2 w9 hown2 hgrow2 hat2; obtain ⟨a2, c2, rfl, _⟩ := own_form hown2; have HB2 := hideL (HB1.out.trans (below_app (mm := 0) HO1.out HB1.out.size hgrow2)); have HO2 := hideL hown2; have hsz2 := HB2.out.size; have SRC3 : Hid (((some (x.add (i * 8))) = none ∧ 0 = 0 ∧ c - i = 0 ∧ rowsOf Rx.row (os.drop i) = []) ∨ ∃ ad, (some (x.add (i * 8))) = some ad ∧ (rowsOf Rx.row (os.drop i)).length = (0) * 8 ∧ ∀ j u, (rowsOf Rx.row (os.drop i))[j]? = some u → w9.cell? (ad.add j) = some u) := .inr ⟨_, rfl, by rw [List.drop_eq_nil_of_le (by have := HN.out; omega)]; simp [rowsOf], fun j u hu => by rw [List.drop_eq_nil_of_le (by have := HN.out; omega)] at hu; simp [rowsOf] at hu⟩; clear hown2 hgrow2 hat2)
            | (at_builtin; refine wpList_append_src _ rfl (.tmp 21) (.tmp 24) 22 rfl w.heap.size 34 i52 _ 8 136 Try.underlying22 hi52 hx0 hx1 hx2 rfl (by decide) (.slice none 0 0) 0 [] rfl NIL.out (some x) i c (rowsOf Rx.row (os.take i)) rfl SRC1.out (rows_oneC Rx.row rx_one _) (by unfold maxLen; omega) (by omega) hszq ?_; intro v1 w1 hown1 hgrow1; rw [Nat.zero_add, List.nil_append] at hown1; obtain ⟨a1, c1, rfl, _⟩ := own_form hown1; have hbq : Below wz.heap.size wz w1 := (Below.refl _ wz).grown hgrow1 (Nat.le_refl _) (fun k h => by cases h); have HB1 := hideL ((HT.out.trans HGQ.out).below.trans (hbq.mono (HT.out.trans HGQ.out).below.size)); have HO1 := hideL hown1; obtain ⟨y0, y1, y2, y3, y4, y5, y6, y7⟩ := box8 (hbq.cells (HBX.out wz HGQ.out)); have HOD : Hid ((w1.alloc (Obj.cells #[.int .i64 r.kd, .string r.nm, .slice r.ea r.eps.length r.ec, .slice r.ta r.tgs.length r.tc, .string r.host, .slice r.ra r.rus.length r.rc, .string r.route, .bool r.del] 34)).ownsRow w.heap.size 34 8 (.slice a1 i c1) i (rowsOf Rx.row (os.take i))) := HO1.out.alloc _; have HND : Hid (∀ j u, r.row[j]? = some u → (w1.alloc (Obj.cells #[.int .i64 r.kd, .string r.nm, .slice r.ea r.eps.length r.ec, .slice r.ta r.tgs.length r.tc, .string r.host, .slice r.ra r.rus.length r.rc, .string r.route, .bool r.del] 34)).cell? ((⟨w1.heap.size, 0, none⟩ : Addr).add j) = some u) := World.news_of_block (w := (w1.alloc (Obj.cells #[.int .i64 r.kd, .string r.nm, .slice r.ea r.eps.length r.ec, .slice r.ta r.tgs.length r.tc, .string r.host, .slice r.ra r.rus.length r.rc, .string r.route, .bool r.del] 34))) (Go.heap_alloc_new w1 _); have hszD : w.heap.size ≤ (w1.alloc (Obj.cells #[.int .i64 r.kd, .string r.nm, .slice r.ea r.eps.length r.ec, .slice r.ta r.tgs.length r.tc, .string r.host, .slice r.ra r.rus.length r.rc, .string r.route, .bool r.del] 34)).heap.size := Nat.le_trans HB1.out.size (by simp); clear hown1 hgrow1 hbq)
          go_ret
          exact ⟨_, rfl, put_gl HL.out HR.out HN.out HCN.out (by omega) (by simpa using HO4.out) HB4.out⟩
end Go.Proofs.Ytmljljpldljpjab
