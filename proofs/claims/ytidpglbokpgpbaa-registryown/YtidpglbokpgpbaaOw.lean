/- own: resources whose endpoints are in memory of their own. -/
import Derived.Test.YtidpglbokpgpbaaTx
namespace Go.Proofs.Ytidpglbokpgpbaa
open Go.RowKit
set_option linter.unusedVariables false
set_option linter.unusedSimpArgs false
set_option maxRecDepth 100000
/-- a resource with a list of its own; the other lists lie where they lay -/
structure Ro (w W : World) (base : Nat) (o : Rx) : Prop where
  own : W.ownsRow base 9 1 (.slice o.ea o.eps.length o.ec) o.eps.length (rowsOf strR o.eps)
  old : ∃ x : Rx, Rin w x ∧ o = { x with ea := o.ea, ec := o.ec }
theorem Ro.says {w W : World} {base : Nat} {o : Rx} (h : Ro w W base o) : ∃ x : Rx, Rin w x ∧ o.toRs = x.toRs := by
  obtain ⟨x, h1, h2⟩ := h.old
  exact ⟨x, h1, by rw [h2]⟩
theorem Ro.rin {w W : World} {base : Nat} {o : Rx} (h : Ro w W base o) (hb : Below w.heap.size w W) : Rin W o := by
  obtain ⟨x, h1, h2⟩ := h.old
  have hc := own_cel strR 1 strR_len (by decide) h.own
  have h1 := h1.below hb
  rw [h2]
  rw [h2] at hc
  exact ⟨hc, h1.ts, h1.rs, h1.k1, h1.n1, h1.n2, h1.n3, h1.se, h1.st, h1.sr, h1.le, h1.lt, h1.lr⟩
theorem Ro.keep {w W W' : World} {base : Nat} {o : Rx} (h : Ro w W base o) (hk : ∀ k cs, base ≤ k → W.heap[k]? = some (.cells cs 9 (0, 0)) → W'.heap[k]? = W.heap[k]?) : Ro w W' base o :=
  ⟨own_blk' h.own (fun k e => by obtain ⟨cs, hc⟩ := own_cells h.own k e; exact hk k cs (h.own.lt k e).1 hc), h.old⟩
/-- a list of such in memory of its own -/
structure Oo (w W : World) (base : Nat) (v : Value) (os : List Rx) : Prop where
  row : W.ownsRow base 44 8 v os.length (rowsOf Rx.row os)
  each : ∀ o ∈ os, Ro w W base o
theorem Oo.nil (w W : World) (base : Nat) : Oo w W base (.slice none 0 0) [] := ⟨⟨by simp [rowsOf], .inl ⟨rfl, rfl⟩⟩, fun o ho => (by cases ho)⟩
theorem Oo.below {w W W' : World} {base : Nat} {v : Value} {os : List Rx} (h : Oo w W base v os) (hb : Below W.heap.size W W') : Oo w W' base v os :=
  ⟨own_stay h.row hb, fun o ho => (h.each o ho).keep (fun k cs _ hc => hb.block k (lt_of_block hc))⟩
theorem Oo.lr {w W : World} {base : Nat} {a : Option Addr} {n c : Nat} {os : List Rx} (h : Oo w W base (.slice a n c) os) (hb : Below w.heap.size w W) : Lr W a os := by
  obtain ⟨a', c', e', _⟩ := own_form h.row
  cases e'
  exact ⟨fun o ho => (h.each o ho).rin hb, own_cel Rx.row 8 rx_len (by decide) h.row⟩
theorem Oo.more {w W w3 : World} {base mm : Nat} {v v3 : Value} {os : List Rx} {p : Rx} {ob : Obj} (h : Oo w W base v os) (hr : w3.ownsRow base 44 8 v3 (os.length + 1) (rowsOf Rx.row os ++ p.row)) (hg : ((W.alloc ob).drewN mm).grownBy w3 v.ownBlock) (hp : Ro w W base p) : Oo w w3 base v3 (os ++ [p]) := by
  refine ⟨by rw [List.length_append, rowsOf_append, rowsOf_one]; exact hr, fun o ho => ?_⟩
  have hk : ∀ o, Ro w W base o → Ro w w3 base o := fun o ho => ⟨own_app h.row hg ho.own (by decide), ho.old⟩
  rcases List.mem_append.1 ho with ho | ho
  · exact hk o (h.each o ho)
  · simp at ho; subst ho; exact hk _ hp
theorem grown_new {W W2 : World} {e : TypeId} (hg : (W.alloc (.cells #[] e)).grownBy W2 (some W.heap.size)) : Below W.heap.size W W2 :=
  ⟨hg.os, hg.tape, hg.output, Nat.le_trans (by simp) hg.size, fun k hk => (hg.block k (by simp; omega) (fun e => by cases e; omega)).trans (Below.heap_alloc W _ k hk)⟩
def boxO (o : Rx) : Obj := .cells #[.int .i64 o.kd, .string o.nm, .slice o.ea o.eps.length o.ec, .slice o.ta o.tgs.length o.tc, .string o.host, .slice o.ra o.rus.length o.rc, .string o.route, .bool o.del] 44
theorem box8 {W : World} {b : Nat} {o : Rx} (h : W.heap[b]? = some (boxO o)) :
    (W.cell? ⟨b, 0, none⟩ = some (.int .i64 o.kd) ∧ W.cell? ⟨b, 1, none⟩ = some (.string o.nm) ∧ W.cell? ⟨b, 2, none⟩ = some (.slice o.ea o.eps.length o.ec) ∧ W.cell? ⟨b, 3, none⟩ = some (.slice o.ta o.tgs.length o.tc) ∧
    W.cell? ⟨b, 4, none⟩ = some (.string o.host) ∧ W.cell? ⟨b, 5, none⟩ = some (.slice o.ra o.rus.length o.rc) ∧ W.cell? ⟨b, 6, none⟩ = some (.string o.route) ∧ W.cell? ⟨b, 7, none⟩ = some (.bool o.del)) ∧ ∀ k, W.frozen? ⟨b, k, none⟩ = false := by
  unfold boxO at h
  refine ⟨⟨?_, ?_, ?_, ?_, ?_, ?_, ?_, ?_⟩, fun k => by simp [World.frozen?, h]⟩ <;> (rw [cell_block h]; rfl)
set_option maxHeartbeats 16000000 in
theorem own_any (w : World) (a : Option Addr) (m c : Nat) (L : List Rx) (hL : Lr w a L) (hb : ∀ o ∈ L, Bare o) (hm : L.length = m) (hl : m ≤ 1048576) :
    Calls Try.prog 13 #[.slice a m c] w fun e w' => ∃ v, e = .returned v ∧ ∃ qs, qs.length = m ∧ Oo w w' w.heap.size v qs ∧ qs.map Rx.toRs = L.map Rx.toRs ∧ Below w.heap.size w w' := by
  have HL := hideL hL
  have HM := hideL hm
  have HBA := hideL hb
  clear hL hm hb
  obtain ⟨i44, hi44, hx0, hx1, hx2⟩ := info_parts Try.info44
  obtain ⟨i9, hi9, hy0, hy1, hy2⟩ := info_parts Try.info9
  go_enter Try.func13, Try.ntmps13
  go_wp2_with fail
  go_loopw [3, 4] (fun v t wr => ∃ (i : Nat) (qs : List Rx), t = .int .i64 i ∧ i ≤ m ∧ qs.length = i ∧ Oo w wr w.heap.size v qs ∧ qs.map Rx.toRs = (L.take i).map Rx.toRs ∧ Below w.heap.size w wr) (fun _ t _ => m - (intOf t).toNat)
  case atStart => exact ⟨0, [], rfl, by omega, rfl, Oo.nil _ _ _, rfl, Below.refl _ _⟩
  case round =>
    obtain ⟨i, qs, rfl, hi, hql, hoo, hqs, hbel⟩ := hrel
    have i0 : (0 : Int) ≤ i := by omega
    obtain ⟨va, vc, e, _, hvc, hvm⟩ := own_form hoo.row
    rw [hql] at e hvc
    subst e
    have HOO := hideL hoo
    have HB := hideL hbel
    have HQ := hideL hqs
    have HQL := hideL hql
    have hlm : i + 1 ≤ maxLen := by unfold maxLen; omega
    have hlb : (i + 1) * 136 ≤ 140737488355328 := by omega
    clear hoo hbel hqs hql
    by_cases h3 : i < m
    · have h3' : (i : Int) < m := by omega
      rcases hki : L[i]? with _ | o
      · have := List.getElem?_eq_none_iff.1 hki; have := HM.out; omega
      have HR := hideL (HL.out.each o (List.mem_of_getElem? hki))
      have HBO := hideL (HBA.out o (List.mem_of_getElem? hki))
      obtain ⟨g, off, rfl, d0, d1, d2, d3, d4, d5, d6, d7⟩ := (HL.out.row.below HB.out).cells hki
      have HT := hideL (take_snoc hki)
      have HD : Hid (∀ W, Below w.heap.size w W → W.cell? ⟨g, off + i * 8 + 2, none⟩ = some (.slice o.ea o.eps.length o.ec)) := fun W hW => by
        obtain ⟨g', off', e, -, -, e2, -⟩ := (HL.out.row.below hW).cells hki
        cases e
        exact e2
      have hle := HR.out.le
      obtain ⟨w0, hw0⟩ : ∃ w0, wr.alloc (boxO o) = w0 := ⟨_, rfl⟩
      have HX0 : Hid (w0.heap[wr.heap.size]? = some (boxO o)) := hw0 ▸ Go.heap_alloc_new wr _
      have HW0 : Hid (Below wr.heap.size wr w0) := hw0 ▸ (Gr.alloc _ _).below
      have HWB := hideL (HB.out.trans (HW0.out.mono HB.out.size))
      have m21 := HD.out (w0.alloc (.cells #[] 9)) (HWB.out.alloc HWB.out.size _)
      have HE1 : Hid ((w0.alloc (.cells #[] 9)).ownsRow w0.heap.size 9 1 (.slice (some ⟨w0.heap.size, 0, none⟩) 0 0) 0 []) := own_empty w0 9 1
      have HSR := hideL ((HR.out.es.below (HWB.out.alloc HWB.out.size (.cells #[] 9))).src strR_len HBO.out.e)
      unfold boxO at hw0
      clear hki
      go_wp2_with first
        | (at_builtin; refine wpList_append_at _ rfl (.tmp 24) (.tmp 26) 31 rfl w.heap.size 44 i44 _ 8 136 Try.underlying31 hi44 hx0 hx1 hx2 rfl (by decide) (.slice va i vc) i (rowsOf Rx.row qs) rfl HOD.out ⟨w2.heap.size, 0, none⟩ 1 1 (Rx.row ({ o with ea := a1, ec := c1 } : Rx)) rfl rfl HND.out (rx_one _) hlm hlb hszD ?_; intro v7 w7 hown7 hgrow7 hat7; have HB7 := hideL (below_app (mm := 0) HOL2.out.row HBW.out.size hgrow7); have HO7 := hideL (HOL2.out.more (mm := 0) (p := ({ o with ea := a1, ec := c1 } : Rx)) (by rw [HQL.out]; exact hown7) hgrow7 ⟨O1.out, ⟨o, HR.out, rfl⟩⟩); clear hown7 hgrow7 hat7)
        | (at_builtin; refine wpList_append_src _ rfl (.tmp 16) (.tmp 21) 40 rfl w0.heap.size 9 i9 _ 1 16 Try.underlying40 hi9 hy0 hy1 hy2 rfl (by decide) (.slice (some ⟨w0.heap.size, 0, none⟩) 0 0) 0 [] rfl HE1.out o.ea _ _ (rowsOf strR o.eps) rfl HSR.out (rows_oneC strR strR_one _) (by unfold maxLen; omega) (by omega) (by simp) ?_; intro v1 w1 hown1 hgrow1; rw [Nat.zero_add, List.nil_append] at hown1; obtain ⟨a1, c1, rfl, _⟩ := own_form hown1; have hb1 : Below w0.heap.size w0 w1 := grown_new hgrow1; have hx1 := hb1.cells HX0.out; obtain ⟨⟨-, -, g2, -⟩, gz⟩ := box8 hx1; have hset := heap_setCell_same w1 wr.heap.size 2 _ 44 (.slice a1 o.eps.length c1) hx1; have O1 := hideL ((But.set (b := wr.heap.size) (A := w1) 2 (.slice a1 o.eps.length c1)).own (own_low' hown1 HWB.out.size) hx1 (by decide)); have HL2 := hideL (HW0.out.trans ((hb1.mono HW0.out.size).trans ((But.set (b := wr.heap.size) (A := w1) 2 (.slice a1 o.eps.length c1)).below (Nat.le_trans HW0.out.size hb1.size) (Nat.le_refl _)))); obtain ⟨w2, hw2⟩ : ∃ X, w1.setCell ⟨wr.heap.size, 2, none⟩ (.slice a1 o.eps.length c1) = X := ⟨_, rfl⟩; rw [hw2] at hset O1 HL2; have hset2 : w2.heap[wr.heap.size]? = some (boxO { o with ea := a1, ec := c1 }) := hset; obtain ⟨⟨z0, z1, z2, z3, z4, z5, z6, z7⟩, -⟩ := box8 hset2; have HBW := hideL (HB.out.trans (HL2.out.mono HB.out.size)); have HOL2 := hideL (HOO.out.below HL2.out); clear hown1 hgrow1 hx1 hset hset2 HE1 HSR hb1; have HOD : Hid ((w2.alloc (Obj.cells #[.int .i64 o.kd, .string o.nm, .slice a1 o.eps.length c1, .slice o.ta o.tgs.length o.tc, .string o.host, .slice o.ra o.rus.length o.rc, .string o.route, .bool o.del] 44)).ownsRow w.heap.size 44 8 (.slice va i vc) i (rowsOf Rx.row qs)) := (by have := HOL2.out.row.alloc (Obj.cells #[.int .i64 o.kd, .string o.nm, .slice a1 o.eps.length c1, .slice o.ta o.tgs.length o.tc, .string o.host, .slice o.ra o.rus.length o.rc, .string o.route, .bool o.del] 44); rwa [HQL.out] at this); have HND : Hid (∀ j u, (Rx.row ({ o with ea := a1, ec := c1 } : Rx))[j]? = some u → (w2.alloc (Obj.cells #[.int .i64 o.kd, .string o.nm, .slice a1 o.eps.length c1, .slice o.ta o.tgs.length o.tc, .string o.host, .slice o.ra o.rus.length o.rc, .string o.route, .bool o.del] 44)).cell? ((⟨w2.heap.size, 0, none⟩ : Addr).add j) = some u) := World.news_of_block (w := (w2.alloc (Obj.cells #[.int .i64 o.kd, .string o.nm, .slice a1 o.eps.length c1, .slice o.ta o.tgs.length o.tc, .string o.host, .slice o.ra o.rus.length o.rc, .string o.route, .bool o.del] 44))) (Go.heap_alloc_new w2 _); have hszD : w.heap.size ≤ (w2.alloc (Obj.cells #[.int .i64 o.kd, .string o.nm, .slice a1 o.eps.length c1, .slice o.ta o.tgs.length o.tc, .string o.host, .slice o.ra o.rus.length o.rc, .string o.route, .bool o.del] 44)).heap.size := Nat.le_trans HBW.out.size (by simp))
      go_roundw
      case rel =>
        refine ⟨i + 1, qs ++ [({ o with ea := a1, ec := c1 } : Rx)], by go_num, by omega, by simp [HQL.out], HO7.out, ?_, HBW.out.trans HB7.out⟩
        rw [List.map_append, HQ.out, HT.out, List.map_append]
        rfl
      case measure => simp [intOf]; omega
    · have h3' : ¬ (i : Int) < m := by omega
      obtain rfl : i = m := by omega
      have HF : Hid (qs.map Rx.toRs = L.map Rx.toRs) := by
        unfold Hid
        rw [HQ.out, List.take_of_length_le (by have := HM.out; omega)]
      go_wp2
      go_ret
      exact ⟨_, rfl, qs, HQL.out, HOO.out, HF.out, HB.out⟩
end Go.Proofs.Ytidpglbokpgpbaa
