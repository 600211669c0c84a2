/-
  own: resources in memory of their own.
-/
import Derived.Test.YtmljljpldljpjabFt
namespace Go.Proofs.Ytmljljpldljpjab
open Go.RowKit
set_option linter.unusedVariables false
set_option linter.unusedSimpArgs false
set_option maxRecDepth 100000
theorem rowsOf_split {α : Type} (f : α → List Value) (k : Nat) (hk : ∀ x, (f x).length = k) : ∀ (L : List α) (j : Nat) (u : Value), (rowsOf f L)[j]? = some u → ∃ i x r, L[i]? = some x ∧ (f x)[r]? = some u ∧ j = i * k + r
  | [], j, u, h => by simp [rowsOf] at h
  | a :: L, j, u, h => by
    simp only [rowsOf, List.flatMap_cons] at h
    by_cases hj : j < k
    · rw [List.getElem?_append_left (by rw [hk]; exact hj)] at h
      exact ⟨0, a, j, rfl, h, by omega⟩
    · rw [List.getElem?_append_right (by rw [hk]; omega), hk] at h
      obtain ⟨i, x, r, h1, h2, h3⟩ := rowsOf_split f k hk L (j - k) u h
      exact ⟨i + 1, x, r, by simpa using h1, h2, by rw [Nat.succ_mul]; omega⟩
theorem Cel.src {α : Type} {f : α → List Value} {k : Nat} (hk : ∀ x, (f x).length = k) {w : World} {a : Option Addr} {c : Nat} {L : List α} (h : Cel w a k (L.map f)) (hc : a = none → c = 0) :
    (a = none ∧ L.length = 0 ∧ c = 0 ∧ rowsOf f L = []) ∨ ∃ ad, a = some ad ∧ (rowsOf f L).length = L.length * k ∧ ∀ j u, (rowsOf f L)[j]? = some u → w.cell? (ad.add j) = some u := by
  rcases h with h | ⟨g, off, rfl, h2⟩
  · simp at h
    subst h
    rcases a with _ | ad
    · exact .inl ⟨rfl, rfl, hc rfl, rfl⟩
    · exact .inr ⟨ad, rfl, by simp [rowsOf], fun j u hu => by simp [rowsOf] at hu⟩
  · refine .inr ⟨_, rfl, rowsOf_length f k hk L, fun j u hu => ?_⟩
    obtain ⟨i, x, r, h3, h4, rfl⟩ := rowsOf_split f k hk L j u hu
    have := h2 i (f x) (by simp [h3]) r u h4
    rw [Go.WideShapes.add_plain]
    rw [show off + (i * k + r) = off + i * k + r by omega]
    exact this
/-- where no list lies, there is no room -/
structure Bare (o : Rx) : Prop where
  e : o.ea = none → o.ec = 0
  t : o.ta = none → o.tc = 0
  r : o.ra = none → o.rc = 0
theorem fld_set {W : World} {B : Nat} {q : Rx} (h : W.heap[B]? = some (boxO q)) (x : Option Addr) (c : Nat) :
    (W.cell? ⟨B, 2, none⟩ = some (.slice q.ea q.eps.length q.ec) ∧ W.cell? ⟨B, 3, none⟩ = some (.slice q.ta q.tgs.length q.tc) ∧ W.cell? ⟨B, 5, none⟩ = some (.slice q.ra q.rus.length q.rc)) ∧
    (W.frozen? ⟨B, 2, none⟩ = false ∧ W.frozen? ⟨B, 3, none⟩ = false ∧ W.frozen? ⟨B, 5, none⟩ = false) ∧
    ((W.setCell ⟨B, 2, none⟩ (.slice x q.eps.length c)).heap[B]? = some (boxO { q with ea := x, ec := c }) ∧ (W.setCell ⟨B, 3, none⟩ (.slice x q.tgs.length c)).heap[B]? = some (boxO { q with ta := x, tc := c }) ∧ (W.setCell ⟨B, 5, none⟩ (.slice x q.rus.length c)).heap[B]? = some (boxO { q with ra := x, rc := c })) := by
  obtain ⟨-, -, c2, c3, -, c5, -, -⟩ := box8 h
  unfold boxO at h
  exact ⟨⟨c2, c3, c5⟩, ⟨by simp [World.frozen?, h], by simp [World.frozen?, h], by simp [World.frozen?, h]⟩, heap_setCell_same W B 2 _ 34 _ h, heap_setCell_same W B 3 _ 34 _ h, heap_setCell_same W B 5 _ 34 _ h⟩
theorem boxNe {W : World} {B : Nat} {q : Rx} (h : W.heap[B]? = some (boxO q)) : ∃ cs, W.heap[B]? = some (.cells cs 34 (0, 0)) := ⟨_, h⟩
/-- what stands while a resource's lists are laid anew -/
structure Lay (w wr W : World) (q : Rx) : Prop where
  bel : Below wr.heap.size wr W
  box : W.heap[wr.heap.size]? = some (boxO q)
theorem Lay.lt {w wr W : World} {q : Rx} (h : Lay w wr W q) : wr.heap.size < W.heap.size := lt_of_block h.box
theorem Lay.app {w wr W W2 : World} {q : Rx} (h : Lay w wr W q) {e : TypeId} (hg : (W.alloc (.cells #[] e)).grownBy W2 (some W.heap.size)) : Lay w wr W2 q ∧ Below W.heap.size W W2 := by
  have hb : Below W.heap.size W W2 := ⟨hg.os, hg.tape, hg.output, Nat.le_trans (by simp) hg.size, fun k hk => (hg.block k (by simp; omega) (fun e => by cases e; omega)).trans (Below.heap_alloc W _ k hk)⟩
  exact ⟨⟨h.bel.trans (hb.mono h.bel.size), hb.cells h.box⟩, hb⟩
theorem Lay.set {w wr W : World} {q : Rx} (h : Lay w wr W q) (o : Nat) (v : Value) {q' : Rx} (hb : (W.setCell ⟨wr.heap.size, o, none⟩ v).heap[wr.heap.size]? = some (boxO q')) : Lay w wr (W.setCell ⟨wr.heap.size, o, none⟩ v) q' :=
  ⟨h.bel.trans ((But.set (b := wr.heap.size) (A := W) o v).below h.bel.size (Nat.le_refl _)), hb⟩
theorem own_set {wr W : World} {q : Rx} (hx : W.heap[wr.heap.size]? = some (boxO q)) (o : Nat) (v : Value) {base : Nat} {e : TypeId} {size : Nat} {u : Value} {n : Nat} {xs : List Value} (h : W.ownsRow base e size u n xs) (hne : 34 ≠ e) : (W.setCell ⟨wr.heap.size, o, none⟩ v).ownsRow base e size u n xs :=
  own_but (But.set o v) h (cs := _) (t := 34) (fr := (0, 0)) hx hne
set_option maxHeartbeats 32000000 in
theorem own_any (w : World) (a : Option Addr) (n c : Nat) (os : List Rx) (hL : Lr w a os) (hb : ∀ o ∈ os, Bare o) (hn : os.length = n) (hs : n ≤ 1048576) :
    Calls Try.prog 5 #[.slice a n c] w fun e w' => ∃ v qs, e = .returned v ∧ Ol w' w.heap.size v qs ∧ qs.map Rx.toRs = os.map Rx.toRs ∧ Below w.heap.size w w' := by
  have HL := hideL hL
  have HN := hideL hn
  have HBA := hideL hb
  clear hL hn hb
  obtain ⟨i52, hi52, hx0, hx1, hx2⟩ := info_parts Try.info34
  obtain ⟨i9, hi9, hy0, hy1, hy2⟩ := info_parts Try.info9
  obtain ⟨i57, hi57, hz0, hz1, hz2⟩ := info_parts Try.info46
  obtain ⟨i71, hi71, hq0, hq1, hq2⟩ := info_parts Try.info58
  go_enter Try.func5, Try.ntmps5
  go_wp2_with fail
  go_loopw [3, 4] (fun v t wr => ∃ (i : Nat) (qs : List Rx), t = .int .i64 i ∧ i ≤ n ∧ qs.length = i ∧ Ol wr w.heap.size v qs ∧ qs.map Rx.toRs = (os.take i).map Rx.toRs ∧ Below w.heap.size w wr) (fun _ t _ => n - (intOf t).toNat)
  case atStart => exact ⟨0, [], rfl, by omega, rfl, Ol.nil _ _, rfl, Below.refl _ _⟩
  case round =>
    obtain ⟨i, qs, rfl, hi, hql, hol, hqs, hbel⟩ := hrel
    have i0 : (0 : Int) ≤ i := by omega
    obtain ⟨va, vc, e, _, hvc, hvm⟩ := own_form hol.row
    rw [hql] at e hvc
    subst e
    have HOL := hideL hol
    have HB := hideL hbel
    have HQ := hideL hqs
    have HQL := hideL hql
    have hlm : i + 1 ≤ maxLen := by unfold maxLen; omega
    have hlb : (i + 1) * 136 ≤ 140737488355328 := by omega
    clear hol hbel hqs hql
    by_cases h3 : i < n
    · have h3' : (i : Int) < n := by omega
      rcases hki : os[i]? with _ | o
      · have := List.getElem?_eq_none_iff.1 hki; have := HN.out; omega
      have HR := hideL (HL.out.each o (List.mem_of_getElem? hki))
      have HBO := hideL (HBA.out o (List.mem_of_getElem? hki))
      obtain ⟨g, off, rfl, d0, d1, d2, d3, d4, d5, d6, d7⟩ := (HL.out.row.below HB.out).cells hki
      have HT := hideL (take_snoc hki)
      have hg : g < w.heap.size := by
        obtain ⟨g', off', e, e0, -⟩ := HL.out.row.cells hki
        cases e
        exact World.block_lt_of_cell? w _ e0
      have HD : Hid (∀ W, Below w.heap.size w W → W.cell? ⟨g, off + i * 8 + 2, none⟩ = some (.slice o.ea o.eps.length o.ec) ∧ W.cell? ⟨g, off + i * 8 + 3, none⟩ = some (.slice o.ta o.tgs.length o.tc) ∧ W.cell? ⟨g, off + i * 8 + 5, none⟩ = some (.slice o.ra o.rus.length o.rc)) := fun W hW => by
        obtain ⟨g', off', e, -, -, e2, e3, -, e5, -, -⟩ := (HL.out.row.below hW).cells hki
        cases e
        exact ⟨e2, e3, e5⟩
      have hle := HR.out.le
      have hlt := HR.out.lt
      have hlr := HR.out.lr
      clear hki
      have HW : Hid (∀ W, Below wr.heap.size wr W → Below w.heap.size w W) := fun W hW => HB.out.trans (hW.mono HB.out.size)
      have LA1 : Hid (Lay w wr (wr.alloc (boxO o)) o) := ⟨(Gr.alloc _ _).below, heap_alloc_new wr _⟩
      obtain ⟨w0, hw0⟩ : ∃ w0, wr.alloc (boxO o) = w0 := ⟨_, rfl⟩
      rw [hw0] at LA1
      unfold boxO at hw0
      obtain ⟨m21, m31, m51⟩ := HD.out _ (HW.out _ ((LA1.out.bel).alloc LA1.out.bel.size (.cells #[] 9)))
      have HE1 : Hid ((w0.alloc (.cells #[] 9)).ownsRow w0.heap.size 9 1 (.slice (some ⟨w0.heap.size, 0, none⟩) 0 0) 0 []) := own_empty w0 9 1
      have HSR1 := hideL ((HR.out.es.below ((HW.out _ LA1.out.bel).alloc (HW.out _ LA1.out.bel).size (.cells #[] 9))).src strR_len HBO.out.e)
      go_wp2_with first
        | (at_builtin; refine wpList_append_at _ rfl (.tmp 40) (.tmp 42) 22 rfl w.heap.size 34 i52 _ 8 136 Try.underlying22 hi52 hx0 hx1 hx2 rfl (by decide) (.slice va i vc) i (rowsOf Rx.row qs) rfl HOD.out ⟨w6.heap.size, 0, none⟩ 1 1 (Rx.row ({ o with ea := a1, ec := c1, ta := a2, tc := c2, ra := a3, rc := c3 } : Rx)) rfl rfl HND.out (rx_one _) hlm hlb hszD ?_; intro v7 w7 hown7 hgrow7 hat7; have HB7 := hideL (below_app (mm := 0) HOL6.out.row (HW.out _ LA4.out.bel).size hgrow7); have HO7 := hideL (HOL6.out.more (mm := 0) (p := ({ o with ea := a1, ec := c1, ta := a2, tc := c2, ra := a3, rc := c3 } : Rx)) (by rw [HQL.out]; exact hown7) hgrow7 ⟨O1.out, O2.out, O3.out⟩); clear hown7 hgrow7 hat7)
        | (at_builtin; refine wpList_append_src _ rfl (.tmp 32) (.tmp 37) 32 rfl w4.heap.size 58 i71 _ 4 56 Try.underlying32 hi71 hq0 hq1 hq2 rfl (by decide) (.slice (some ⟨w4.heap.size, 0, none⟩) 0 0) 0 [] rfl HE3.out o.ra _ _ (rowsOf Ru.row o.rus) rfl HSR3.out (rows_oneC Ru.row ru_one _) (by unfold maxLen; omega) (by omega) (by simp) ?_; intro v3 w5 hown3 hgrow3; rw [Nat.zero_add, List.nil_append] at hown3; obtain ⟨a3, c3, rfl, _⟩ := own_form hown3; obtain ⟨hla3, hbb3⟩ := LA3.out.app hgrow3; obtain ⟨⟨g23, g33, g53⟩, ⟨f23, f33, f53⟩, k2, k3, k5⟩ := fld_set hla3.box a3 c3; have O3 := hideL (own_set hla3.box 5 (.slice a3 o.rus.length c3) (own_low' hown3 (Nat.le_trans HB.out.size LA3.out.bel.size)) (by decide)); replace O1 := hideL (own_set hla3.box 5 (.slice a3 o.rus.length c3) (own_stay O1.out hbb3) (by decide)); replace O2 := hideL (own_set hla3.box 5 (.slice a3 o.rus.length c3) (own_stay O2.out hbb3) (by decide)); have LA4 := hideL (hla3.set 5 (.slice a3 o.rus.length c3) k5); obtain ⟨w6, hw6⟩ : ∃ X, w5.setCell ⟨wr.heap.size, 5, none⟩ (.slice a3 o.rus.length c3) = X := ⟨_, rfl⟩; rw [hw6] at LA4 O1 O2 O3; clear hown3 hgrow3 hla3 hbb3 k2 k3 k5 HE3 HSR3 LA3; obtain ⟨z0, z1, z2, z3, z4, z5, z6, z7⟩ := box8 LA4.out.box; have HOL6 := hideL (HOL.out.below LA4.out.bel); have HOD : Hid ((w6.alloc (Obj.cells #[.int .i64 o.kd, .string o.nm, .slice a1 o.eps.length c1, .slice a2 o.tgs.length c2, .string o.host, .slice a3 o.rus.length c3, .string o.route, .bool o.del] 34)).ownsRow w.heap.size 34 8 (.slice va i vc) i (rowsOf Rx.row qs)) := (by have := HOL6.out.row.alloc (Obj.cells #[.int .i64 o.kd, .string o.nm, .slice a1 o.eps.length c1, .slice a2 o.tgs.length c2, .string o.host, .slice a3 o.rus.length c3, .string o.route, .bool o.del] 34); rwa [HQL.out] at this); have HND : Hid (∀ j u, (Rx.row ({ o with ea := a1, ec := c1, ta := a2, tc := c2, ra := a3, rc := c3 } : Rx))[j]? = some u → (w6.alloc (Obj.cells #[.int .i64 o.kd, .string o.nm, .slice a1 o.eps.length c1, .slice a2 o.tgs.length c2, .string o.host, .slice a3 o.rus.length c3, .string o.route, .bool o.del] 34)).cell? ((⟨w6.heap.size, 0, none⟩ : Addr).add j) = some u) := World.news_of_block (w := (w6.alloc (Obj.cells #[.int .i64 o.kd, .string o.nm, .slice a1 o.eps.length c1, .slice a2 o.tgs.length c2, .string o.host, .slice a3 o.rus.length c3, .string o.route, .bool o.del] 34))) (Go.heap_alloc_new w6 _); have hszD : w.heap.size ≤ (w6.alloc (Obj.cells #[.int .i64 o.kd, .string o.nm, .slice a1 o.eps.length c1, .slice a2 o.tgs.length c2, .string o.host, .slice a3 o.rus.length c3, .string o.route, .bool o.del] 34)).heap.size := Nat.le_trans HB.out.size (Nat.le_trans LA4.out.bel.size (by simp)))
        | (at_builtin; refine wpList_append_src _ rfl (.tmp 24) (.tmp 29) 31 rfl w2.heap.size 46 i57 _ 3 40 Try.underlying31 hi57 hz0 hz1 hz2 rfl (by decide) (.slice (some ⟨w2.heap.size, 0, none⟩) 0 0) 0 [] rfl HE2.out o.ta _ _ (rowsOf Tg.row o.tgs) rfl HSR2.out (rows_oneC Tg.row tg_one _) (by unfold maxLen; omega) (by omega) (by simp) ?_; intro v2 w3 hown2 hgrow2; rw [Nat.zero_add, List.nil_append] at hown2; obtain ⟨a2, c2, rfl, _⟩ := own_form hown2; obtain ⟨hla2, hbb2⟩ := LA2.out.app hgrow2; obtain ⟨⟨g22, g32, g52⟩, ⟨f22, f32, f52⟩, k2, k3, k5⟩ := fld_set hla2.box a2 c2; have O2 := hideL (own_set hla2.box 3 (.slice a2 o.tgs.length c2) (own_low' hown2 (Nat.le_trans HB.out.size LA2.out.bel.size)) (by decide)); replace O1 := hideL (own_set hla2.box 3 (.slice a2 o.tgs.length c2) (own_stay O1.out hbb2) (by decide)); have LA3 := hideL (hla2.set 3 (.slice a2 o.tgs.length c2) k3); obtain ⟨w4, hw4⟩ : ∃ X, w3.setCell ⟨wr.heap.size, 3, none⟩ (.slice a2 o.tgs.length c2) = X := ⟨_, rfl⟩; rw [hw4] at LA3 O1 O2; clear hown2 hgrow2 hla2 hbb2 k2 k3 k5 HE2 HSR2 LA2; obtain ⟨m23, m33, m53⟩ := HD.out _ (HW.out _ ((LA3.out.bel).alloc LA3.out.bel.size (.cells #[] 58))); have HE3 : Hid ((w4.alloc (.cells #[] 58)).ownsRow w4.heap.size 58 4 (.slice (some ⟨w4.heap.size, 0, none⟩) 0 0) 0 []) := own_empty w4 58 4; have HSR3 := hideL ((HR.out.rs.below ((HW.out _ LA3.out.bel).alloc (HW.out _ LA3.out.bel).size (.cells #[] 58))).src ru_len HBO.out.r))
        | (at_builtin; refine wpList_append_src _ rfl (.tmp 16) (.tmp 21) 30 rfl w0.heap.size 9 i9 _ 1 16 Try.underlying30 hi9 hy0 hy1 hy2 rfl (by decide) (.slice (some ⟨w0.heap.size, 0, none⟩) 0 0) 0 [] rfl HE1.out o.ea _ _ (rowsOf strR o.eps) rfl HSR1.out (rows_oneC strR strR_one _) (by unfold maxLen; omega) (by omega) (by simp) ?_; intro v1 w1 hown1 hgrow1; rw [Nat.zero_add, List.nil_append] at hown1; obtain ⟨a1, c1, rfl, _⟩ := own_form hown1; obtain ⟨hla1, hbb1⟩ := LA1.out.app hgrow1; obtain ⟨⟨g21, g31, g51⟩, ⟨f21, f31, f51⟩, k2, k3, k5⟩ := fld_set hla1.box a1 c1; have O1 := hideL (own_set hla1.box 2 (.slice a1 o.eps.length c1) (own_low' hown1 (Nat.le_trans HB.out.size LA1.out.bel.size)) (by decide)); have LA2 := hideL (hla1.set 2 (.slice a1 o.eps.length c1) k2); obtain ⟨w2, hw2⟩ : ∃ X, w1.setCell ⟨wr.heap.size, 2, none⟩ (.slice a1 o.eps.length c1) = X := ⟨_, rfl⟩; rw [hw2] at LA2 O1; clear hown1 hgrow1 hla1 hbb1 k2 k3 k5 HE1 HSR1 LA1; obtain ⟨m22, m32, m52⟩ := HD.out _ (HW.out _ ((LA2.out.bel).alloc LA2.out.bel.size (.cells #[] 46))); have HE2 : Hid ((w2.alloc (.cells #[] 46)).ownsRow w2.heap.size 46 3 (.slice (some ⟨w2.heap.size, 0, none⟩) 0 0) 0 []) := own_empty w2 46 3; have HSR2 := hideL ((HR.out.ts.below ((HW.out _ LA2.out.bel).alloc (HW.out _ LA2.out.bel).size (.cells #[] 46))).src tg_len HBO.out.t))
      go_roundw
      case rel =>
        refine ⟨i + 1, qs ++ [({ o with ea := a1, ec := c1, ta := a2, tc := c2, ra := a3, rc := c3 } : Rx)], by go_num, by omega, by simp [HQL.out], HO7.out, ?_, (HW.out _ LA4.out.bel).trans HB7.out⟩
        rw [List.map_append, HQ.out, HT.out, List.map_append]
        rfl
      case measure => simp [intOf]; omega
    · have h3' : ¬ (i : Int) < n := by omega
      obtain rfl : i = n := by omega
      go_wp2
      go_ret
      refine ⟨_, rfl, qs, HOL.out, ?_, HB.out⟩
      rw [HQ.out, List.take_of_length_le (by have := HN.out; omega)]
end Go.Proofs.Ytmljljpldljpjab
