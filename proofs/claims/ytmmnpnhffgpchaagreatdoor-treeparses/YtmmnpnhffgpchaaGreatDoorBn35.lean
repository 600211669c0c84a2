import Derived.Test.YtmmnpnhffgpchaaGreatDoorBn33
import Derived.Test.YtmmnpnhffgpchaaGreatDoorBn34
import Derived.Test.YtmmnpnhffgpchaaGreatDoorBn24
/-
  Lists of trees in memory; the law's trees.
-/
namespace Go.Proofs.YtmmnpnhffgpchaaGreatDoor
open Go.RowKit
set_option linter.unusedVariables false
set_option linter.unusedSimpArgs false
set_option maxRecDepth 100000
theorem lpM_size {V : Tk → Nat → Nat → Rr} {L : List Tk} {t0 : Tk} (hV : ∀ u q m t q2 m2, m ≤ 4096 → V u q m = .ok t q2 m2 → m2 = m + t.size ∧ m2 ≤ 4096) : ∀ (n : Nat) (acc : List Tr) (q made : Nat) (ts : List Tr) (q2 m2 : Nat), made ≤ 4096 → lpM V L t0 n acc q made = .ok ts q2 m2 → m2 + sizes acc = made + sizes ts ∧ m2 ≤ 4096
  | 0, acc, q, made, ts, q2, m2, hm, h => by rw [lpM] at h; cases h; exact ⟨rfl, hm⟩
  | n + 1, acc, q, made, ts, q2, m2, hm, h => by
    rw [lpM] at h
    split at h
    · cases h; exact ⟨rfl, hm⟩
    · split at h
      · split at h
        · cases h
        · split at h
          · rename_i hx
            obtain ⟨h1, h2⟩ := hV _ _ _ _ _ _ hm hx
            obtain ⟨h3, h4⟩ := lpM_size hV n _ _ _ ts q2 m2 h2 h
            rw [sizes_snoc, size_withKey] at h3
            exact ⟨by omega, h4⟩
          · cases h
      · cases h; exact ⟨rfl, hm⟩
theorem blkM_size {L : List Tk} : ∀ (f q made : Nat) (t : Tr) (q2 m2 : Nat), made ≤ 4096 → blkM L f q made = .ok t q2 m2 → m2 = made + t.size ∧ m2 ≤ 4096
  | 0, q, made, t, q2, m2, hm, h => by
    rw [blkM] at h
    split at h <;> cases h
  | f + 1, q, made, t, q2, m2, hm, h => by
    rw [blkM] at h
    split at h
    · cases h
    · split at h
      · cases h
      · split at h
        · cases h; simp [Tr.size, sizes]; omega
        · split at h
          · rename_i hx
            cases h
            obtain ⟨h1, h2⟩ := lpM_size (fun u q m t q2 m2 hm hv => by
              unfold valM at hv
              split at hv
              · exact blkM_size f q m t q2 m2 hm hv
              · split at hv
                · cases hv
                · cases hv; simp [leafT, Tr.size, sizes]; omega) _ _ _ _ _ _ _ (by omega) hx
            rw [Tr.size]
            simp only [sizes] at h1
            exact ⟨by omega, h2⟩
          · cases h
theorem docM_size {L : List Tk} {t : Tr} (h : docM L = .ok t) : t.size ≤ 4096 := by
  unfold docM at h
  split at h
  · cases h
  · split at h
    · split at h
      · cases h
      · rename_i hx
        split at h
        · cases h
        · cases h
          have := blkM_size _ _ _ _ _ _ (by decide) hx
          omega
    · cases h
/-- a list of trees, each in nodes of the call's own -/
structure Ots (w : World) (base : Nat) (v : Value) (ts : List Tr) (vs : List Value) : Prop where
  row : w.ownsRow base 47 1 v ts.length vs
  each : ∀ (i : Nat) (t : Tr), ts[i]? = some t → ∃ x ns, vs[i]? = some x ∧ Own w base x ns ∧ ns.map Nx.nd = t.flat 0 ∧ ns.length ≤ 4096
theorem Ots.nil (w : World) (base : Nat) : Ots w base (.slice none 0 0) [] [] := ⟨⟨rfl, .inl ⟨rfl, rfl⟩⟩, fun i t h => by simp at h⟩
theorem Ots.below {w w' : World} {base : Nat} {v : Value} {ts : List Tr} {vs : List Value} (h : Ots w base v ts vs) (hb : Below w.heap.size w w') : Ots w' base v ts vs :=
  ⟨own_block h.row fun k hk => hb.block k (h.row.lt k hk).2, fun i t ht => by
    obtain ⟨x, ns, h1, h2, h3, h4⟩ := h.each i t ht
    exact ⟨x, ns, h1, h2.below hb, h3, h4⟩⟩
theorem Own.drewN' {w : World} {base : Nat} {v : Value} {os : List Nx} (h : Own w base v os) (q : Nat) : Own (w.drewN q) base v os := h.below ⟨rfl, rfl, rfl, Nat.le_refl _, fun _ _ => rfl⟩
set_option maxHeartbeats 4000000 in
theorem trees_same (w : World) (b1 b2 : Nat) (a b : Option Addr) (n c1 c2 : Nat) (ts : List Tr) (vs ws : List Value) (hn : ts.length = n) (h1 : Ots w b1 (.slice a n c1) ts vs) (h2 : Ots w b2 (.slice b n c2) ts ws) (hl : n ≤ 17592186043904) :
    Calls Tryz.prog 7 #[.slice a n c1, .slice b n c2] w fun e w' => e = .returned (.bool true) ∧ ∃ q, w' = w.drewN q := by
  have HN := hideL hn
  have H1 := hideL h1
  have H2 := hideL h2
  clear hn h1 h2
  go_enter Tryz.func7, Tryz.ntmps7
  go_wp2_with (fail)
  go_loopw [5] (fun t wr => ∃ (i : Nat), t = .int .i64 i ∧ i ≤ n ∧ ∃ q, wr = w.drewN q) (fun t _ => n - (intOf t).toNat)
  case atStart => exact ⟨0, rfl, by omega, 0, rfl⟩
  case round =>
    obtain ⟨i, rfl, hi, q, rfl⟩ := hrel
    have i0 : (0 : Int) ≤ i := by omega
    by_cases h3 : i < n
    · have h3' : (i : Int) < n := by omega
      rcases hki : ts[i]? with _ | t
      · have := List.getElem?_eq_none_iff.1 hki; have := HN.out; omega
      obtain ⟨x, ns, k1, k2, k3, k4⟩ := H1.out.each i t hki
      obtain ⟨y, ms, m1, m2, m3, m4⟩ := H2.out.each i t hki
      obtain ⟨xa, xc, rfl, _⟩ := own_form k2.row
      obtain ⟨ya, yc, rfl, _⟩ := own_form m2.row
      have hlen : ms.length = ns.length := by
        have e1 := congrArg List.length k3
        have e2 := congrArg List.length m3
        simp at e1 e2; omega
      have r1 := H1.out.row
      have r2 := H2.out.row
      rw [HN.out] at r1 r2
      obtain ⟨g1, rfl⟩ := own_some r1 (by omega)
      obtain ⟨g2, rfl⟩ := own_some r2 (by omega)
      have x1 : w.cell? ⟨g1, i, none⟩ = some (.slice xa ns.length xc) := by rw [r1.cellAt i (by omega)]; exact k1
      have x2 : w.cell? ⟨g2, i, none⟩ = some (.slice ya ms.length yc) := by rw [r2.cellAt i (by omega)]; exact m1
      obtain ⟨N, hN⟩ : ∃ N, ns.length = N := ⟨_, rfl⟩
      rw [hlen] at x2
      rw [hN] at x1 x2
      have HI : Hid (∀ k, Calls Tryz.prog 14 #[.slice xa N xc, .slice ya N yc] (w.drewN (q + k)) fun e w' => e = .returned (.bool true) ∧ ∃ r, w' = w.drewN (q + r)) := fun k => by
        have o1 : Own (w.drewN (q + k)) b1 (.slice xa N xc) ns := by rw [← hN]; exact k2.drewN' _
        have o2 : Own (w.drewN (q + k)) b2 (.slice ya N yc) ms := by rw [← hN, ← hlen]; exact m2.drewN' _
        exact (nodes_samew _ xa ya N xc yc ns ms hN (hlen.trans hN) (by omega) o1.nsw o2.nsw (k3.trans m3.symm)).mono fun e w' ⟨he, r, hr⟩ => ⟨he, k + r, by rw [hr, drew_two, Nat.add_assoc]⟩
      clear k1 k2 k3 k4 m1 m2 m3 m4 hlen r1 r2 hki hN H1 H2
      go_wp2_with fail
      go_quiet (exact HI.out _)
      go_wp2
      go_roundw
      case rel => exact ⟨i + 1, by go_num, by omega, q + nq, rfl⟩
      case measure => simp [intOf]; omega
    · have h3' : ¬ (i : Int) < n := by omega
      go_wp2
      go_ret
      exact ⟨rfl, q, rfl⟩
end Go.Proofs.YtmmnpnhffgpchaaGreatDoor

/-
  Lists of trees under way.
-/
namespace Go.Proofs.YtmmnpnhffgpchaaGreatDoor
open Go.RowKit
set_option linter.unusedVariables false
set_option linter.unusedSimpArgs false
set_option maxRecDepth 100000
theorem Tryz.info61 : (Tryz.prog.info? 61).map (fun i => (i.zero, i.size, i.bytes)) = some (some (.agg #[.int .i64 0, .int .i64 0, .int .i64 0, .string ⟨#[]⟩, .bool false]), 5, 48) := by kernel_rfl
theorem Tryz.info47 : (Tryz.prog.info? 47).map (fun i => (i.zero, i.size, i.bytes)) = some (some (.slice none 0 0), 1, 24) := by kernel_rfl
theorem apart_types {w : World} {b1 b2 : Nat} {e1 e2 : TypeId} {s1 s2 : Nat} {v1 v2 : Value} {n1 n2 : Nat} {x1 x2 : List Value} (h1 : w.ownsRow b1 e1 s1 v1 n1 x1) (h2 : w.ownsRow b2 e2 s2 v2 n2 x2) (hne : e1 ≠ e2) {k : Nat} (hk : v1.ownBlock = some k) : v2.ownBlock ≠ some k := fun h => by
  obtain ⟨c1, hc1⟩ := own_cells h1 k hk
  obtain ⟨c2, hc2⟩ := own_cells h2 k h
  rw [hc1] at hc2
  injection hc2 with hc2
  injection hc2 with _ h3
  exact hne h3
/-- an append elsewhere: the nodes stay -/
theorem Own.grown {w w3 : World} {base b2 e2 s2 n2 mm : Nat} {v : Value} {os : List Nx} {d : Value} {xs : List Value} {ob : Obj} (h : Own w base v os) (hd : w.ownsRow b2 e2 s2 d n2 xs) (he : e2 ≠ 68 ∧ e2 ≠ 3) (hg : ((w.alloc ob).drewN mm).grownBy w3 d.ownBlock) : Own w3 base v os := by
  have hk : ∀ k, k < w.heap.size → d.ownBlock ≠ some k → w3.heap[k]? = w.heap[k]? := fun k hk hne => (hg.block k (by simp; omega) (fun e => hne e.symm)).trans (Below.heap_alloc w ob k hk)
  exact h.keep (fun k e => hk k (h.row.lt k e).2 (apart_types h.row hd (Ne.symm he.1) e)) (fun o ho k e => hk k ((h.kids o ho).1.lt k e).2 (apart_types (h.kids o ho).1 hd (Ne.symm he.2) e))
theorem Ots.grown {w w3 : World} {base b2 s2 n2 mm : Nat} {v : Value} {ts : List Tr} {vs : List Value} {d : Value} {xs : List Value} {ob : Obj} (h : Ots w base v ts vs) (hd : w.ownsRow b2 61 s2 d n2 xs) (hg : ((w.alloc ob).drewN mm).grownBy w3 d.ownBlock) : Ots w3 base v ts vs := by
  have hk : ∀ k, k < w.heap.size → d.ownBlock ≠ some k → w3.heap[k]? = w.heap[k]? := fun k hk hne => (hg.block k (by simp; omega) (fun e => hne e.symm)).trans (Below.heap_alloc w ob k hk)
  refine ⟨own_block h.row fun k e => hk k (h.row.lt k e).2 (apart_types h.row hd (by decide) e), fun i t ht => ?_⟩
  obtain ⟨x, ns, h1, h2, h3, h4⟩ := h.each i t ht
  exact ⟨x, ns, h1, h2.grown hd (by decide) hg, h3, h4⟩
/-- one tree more -/
theorem Ots.more {w w3 : World} {base mm : Nat} {v v3 x : Value} {ts : List Tr} {vs : List Value} {t : Tr} {ns : List Nx} {ob : Obj} (h : Ots w base v ts vs) (hr : w3.ownsRow base 47 1 v3 (ts.length + 1) (vs ++ [x])) (hg : ((w.alloc ob).drewN mm).grownBy w3 v.ownBlock) (hx : Own w base x ns) (hn : ns.map Nx.nd = t.flat 0) (hl : ns.length ≤ 4096) : Ots w3 base v3 (ts ++ [t]) (vs ++ [x]) := by
  refine ⟨by rw [List.length_append]; exact hr, fun i u hu => ?_⟩
  have hvl : vs.length = ts.length := by have := h.row.1; omega
  by_cases hi : i < ts.length
  · rw [List.getElem?_append_left hi] at hu
    obtain ⟨y, ms, h1, h2, h3, h4⟩ := h.each i u hu
    exact ⟨y, ms, by rw [List.getElem?_append_left (by omega)]; exact h1, h2.grown h.row (by decide) hg, h3, h4⟩
  · rw [List.getElem?_append_right (by omega)] at hu
    have hi2 := (List.getElem?_eq_some_iff.1 hu).1
    have : i = ts.length := by simp at hi2; omega
    subst this
    simp at hu
    subst hu
    exact ⟨x, ns, by rw [← hvl]; simp, hx.grown h.row (by decide) hg, hn, hl⟩
theorem rowsT_at : ∀ (os : List Tk) (i : Nat) (o : Tk), os[i]? = some o → ∀ (j : Nat) (u : Value), o.row[j]? = some u → (rowsT os)[i * 5 + j]? = some u
  | [], i, o, h, j, u, hu => by simp at h
  | x :: os, 0, o, h, j, u, hu => by
    simp at h
    subst h
    have hj := (List.getElem?_eq_some_iff.1 hu).1
    rw [show rowsT (x :: os) = x.row ++ rowsT os from rfl, Nat.zero_mul, Nat.zero_add, List.getElem?_append_left hj]
    exact hu
  | x :: os, i + 1, o, h, j, u, hu => by
    rw [show rowsT (x :: os) = x.row ++ rowsT os from rfl, List.getElem?_append_right (by simp [Tk.row]; omega)]
    have hl : x.row.length = 5 := rfl
    rw [hl, show (i + 1) * 5 + j - 5 = i * 5 + j by omega]
    exact rowsT_at os i o (by simpa using h) j u hu
theorem own_dt0 {w : World} {base g n c : Nat} {doc : List Tk} (h : w.ownsRow base 61 5 (.slice (some ⟨g, 0, none⟩) n c) n (rowsT doc)) (hl : doc.length = n) (h0 : 0 < n) (hs : n ≤ 17592186043904) (hst : ∀ t ∈ doc, t.tx.size ≤ maxLen) : Dt0 w g 0 n doc where
  ts := fun i t hi j u hu => by
    have hi' := (List.getElem?_eq_some_iff.1 hi).1
    have hj := (List.getElem?_eq_some_iff.1 hu).1
    have hj5 : j < 5 := hj
    rw [Nat.zero_add, h.cellAt (i * 5 + j) (by omega)]
    exact rowsT_at doc i t hi j u hu
  str := hst
  len := hl
  small := hs
  glt := (h.lt g rfl).2
  some := h0
end Go.Proofs.YtmmnpnhffgpchaaGreatDoor

/-
  The document's trees of a list of tokens.
-/
namespace Go.Proofs.YtmmnpnhffgpchaaGreatDoor
open Go.RowKit
set_option linter.unusedVariables false
set_option linter.unusedSimpArgs false
set_option maxRecDepth 100000
def OfE (w : World) (r : Or) (e : Ending) (w' : World) : Prop := match r with
  | .ok ts => ∃ v vs, e = .returned (.tuple #[v, .agg #[.int .i64 0, .int .i64 0, .int .i64 0]]) ∧ Ots w' w.heap.size v ts vs ∧ Below w.heap.size w w'
  | .bad d l er => e = .returned (.tuple #[.slice none 0 0, .agg #[.int .i64 d, .int .i64 l, .int .i64 er]]) ∧ Below w.heap.size w w'
theorem set3 {X : World} {p : Nat} {a b c : Value} (h : X.heap[p]? = some (.cells #[a, b, c] 31 (0, 0))) (x y z : Value) :
    (X.frozen? ⟨p, 0, none⟩ = false ∧ (X.setCell ⟨p, 0, none⟩ x).frozen? ⟨p, 1, none⟩ = false ∧ ((X.setCell ⟨p, 0, none⟩ x).setCell ⟨p, 1, none⟩ y).frozen? ⟨p, 2, none⟩ = false) ∧
    (X.cell? ⟨p, 0, none⟩ = some a ∧ (X.setCell ⟨p, 0, none⟩ x).cell? ⟨p, 1, none⟩ = some b ∧ ((X.setCell ⟨p, 0, none⟩ x).setCell ⟨p, 1, none⟩ y).cell? ⟨p, 2, none⟩ = some c) ∧
    ((((X.setCell ⟨p, 0, none⟩ x).setCell ⟨p, 1, none⟩ y).setCell ⟨p, 2, none⟩ z).cell? ⟨p, 0, none⟩ = some x ∧ (((X.setCell ⟨p, 0, none⟩ x).setCell ⟨p, 1, none⟩ y).setCell ⟨p, 2, none⟩ z).cell? ⟨p, 1, none⟩ = some y ∧ (((X.setCell ⟨p, 0, none⟩ x).setCell ⟨p, 1, none⟩ y).setCell ⟨p, 2, none⟩ z).cell? ⟨p, 2, none⟩ = some z) ∧
    But p X (((X.setCell ⟨p, 0, none⟩ x).setCell ⟨p, 1, none⟩ y).setCell ⟨p, 2, none⟩ z) := by
  have h1 := heap_setCell_same X p 0 _ 31 x h
  have h2 := heap_setCell_same _ p 1 _ 31 y h1
  have h3 := heap_setCell_same _ p 2 _ 31 z h2
  refine ⟨⟨by simp [World.frozen?, h], by simp [World.frozen?, h1], by simp [World.frozen?, h2]⟩, ⟨?_, ?_, ?_⟩, ⟨?_, ?_, ?_⟩, ((But.set 0 x).trans (But.set 1 y)).trans (But.set 2 z)⟩
  · rw [cell_block h]; rfl
  · rw [cell_block h1]; rfl
  · rw [cell_block h2]; rfl
  · rw [cell_block h3]; rfl
  · rw [cell_block h3]; rfl
  · rw [cell_block h3]; rfl
/-- the list under way -/
structure Ol (w1 wr : World) (b1 : Nat) (L : List Tk) (R : Or) (i : Nat) (acc : List Tr) (vs : List Value) (doc : List Tk) (u4 u5 : Value) : Prop where
  go : i ≤ L.length → ofM (L.drop i) doc acc = R
  fin : L.length < i → R = .ok acc
  out : Ots wr b1 u4 acc vs
  dc : wr.ownsRow b1 61 5 u5 doc.length (rowsT doc)
  bel : Below b1 w1 wr
  few : acc.length ≤ i ∧ doc.length ≤ i
  mem : ∀ t ∈ doc, t ∈ L
set_option maxHeartbeats 8000000 in
theorem rof_any (w : World) (a : Option Addr) (n cap : Nat) (L : List Tk) (hn : L.length = n) (hl : n ≤ 2932031007317) (hS : Ts w a L) :
    Calls Tryz.prog 13 #[.slice a n cap] w (OfE w (ofM L [] [])) := by
  obtain ⟨R, hR⟩ : ∃ R, ofM L [] [] = R := ⟨_, rfl⟩
  rw [hR]
  obtain ⟨W, hW⟩ : ∃ W, w.alloc (.cells #[.int .i64 0, .int .i64 0, .int .i64 0] 31) = W := ⟨_, rfl⟩
  have hWs : w.heap.size + 1 = W.heap.size := by rw [← hW]; simp
  have HWB : Hid (Below w.heap.size w W) := by rw [← hW]; exact (Below.refl _ w).alloc (Nat.le_refl _) _
  have HWF : Hid (W.heap[w.heap.size]? = some (.cells #[.int .i64 0, .int .i64 0, .int .i64 0] 31 (0, 0))) := by rw [← hW]; exact Go.heap_alloc_new _ _
  have HS : Hid (Ts W a L) := hS.keep fun x hx hne => HWB.out.block _ (hS.lt x hx hne)
  have HN := hideL hn
  have HR := hideL hR
  clear hS hn hR
  obtain ⟨i53, hi53, hx0, hx1, hx2⟩ := info_parts Tryz.info61
  obtain ⟨i41, hi41, hy0, hy1, hy2⟩ := info_parts Tryz.info47
  go_enter Tryz.func13, Tryz.ntmps13
  go_wp2_with fail
  go_loopw [4, 5, 6] (fun u4 u5 t wr => ∃ (i : Nat) (acc : List Tr) (vs : List Value) (doc : List Tk), t = .int .i64 i ∧ i ≤ n + 1 ∧ Ol W wr W.heap.size L R i acc vs doc u4 u5) (fun _ _ t _ => n + 1 - (intOf t).toNat)
  case atStart => exact ⟨0, [], [], [], rfl, by omega, ⟨fun _ => HR.out, fun h => by omega, Ots.nil _ _, ⟨by simp [rowsT], .inl ⟨rfl, rfl⟩⟩, Below.refl _ _, ⟨by simp, by simp⟩, fun t h => by simp at h⟩⟩
  case round =>
    obtain ⟨i, acc, vs, doc, rfl, hi, hol⟩ := hrel
    have i0 : (0 : Int) ≤ i := by omega
    obtain ⟨A, hA⟩ : ∃ A, acc.length = A := ⟨_, rfl⟩
    obtain ⟨M, hM⟩ : ∃ M, doc.length = M := ⟨_, rfl⟩
    have r4 := hol.out.row
    have r5 := hol.dc
    rw [hA] at r4
    rw [hM] at r5
    obtain ⟨oa, oc, rfl, _, hoc, hom⟩ := own_form r4
    obtain ⟨da, dc, rfl, _, hdc, hdm⟩ := own_form r5
    have HOL := hideL hol
    have HA := hideL hA
    have HM := hideL hM
    have hfb : wr.heap[w.heap.size]? = some (.cells #[.int .i64 0, .int .i64 0, .int .i64 0] 31 (0, 0)) := (hol.bel.block _ (by omega)).trans HWF.out
    have f0 : wr.cell? ⟨w.heap.size, 0, none⟩ = some (.int .i64 0) := by rw [cell_block hfb]; rfl
    have f1 : wr.cell? ⟨w.heap.size, 1, none⟩ = some (.int .i64 0) := by rw [cell_block hfb]; rfl
    have f2 : wr.cell? ⟨w.heap.size, 2, none⟩ = some (.int .i64 0) := by rw [cell_block hfb]; rfl
    have HR4 := hideL r4
    have HR5 := hideL r5
    have hAM : A ≤ i ∧ M ≤ i := by rw [← hA, ← hM]; exact hol.few
    by_cases h3 : i ≤ n
    · have h3' : (i : Int) ≤ n := by omega
      have h3n : decide (i ≤ n) = true := by rw [decide_eq_true_iff]; omega
      have hdr : i < n → ∃ o, L[i]? = some o := fun h => ⟨L[i]'(by rw [HN.out]; exact h), List.getElem?_eq_getElem _⟩
      by_cases hin : i < n
      · obtain ⟨o, ho⟩ := hdr hin
        clear hdr
        have h1 := HS.out.keep fun x hx hne => hol.bel.block _ (HS.out.lt x hx hne)
        rcases h1.row with hx | ⟨g, off, rfl, hcc⟩
        · rw [hx] at ho; simp at ho
        have c0 := hcc i _ ho 0 _ rfl
        have c1 := hcc i _ ho 1 _ rfl
        have c2 := hcc i _ ho 2 _ rfl
        have c3 := hcc i _ ho 3 _ rfl
        have c4 := hcc i _ ho 4 _ rfl
        rw [Nat.add_zero] at c0
        have e1 : decide (i < n) = true := by rw [decide_eq_true_iff]; exact hin
        have e2 : (i : Int) < n := by omega
        have hdrop : L.drop i = o :: L.drop (i + 1) := by
          obtain ⟨hlt, he⟩ := List.getElem?_eq_some_iff.1 ho
          rw [List.drop_eq_getElem_cons hlt, he]
        have HGO := hideL (hol.go (by have := HN.out; omega))
        rw [hdrop, ofM] at HGO
        have HMEM : Hid (o ∈ L) := List.mem_of_getElem? ho
        clear hcc h1 ho hdrop
        by_cases hk1 : o.kd = 1
        · rw [if_pos hk1] at HGO
          have HC : Hid ((∀ acc', endM doc acc = .ok acc' → (i + 1 ≤ L.length → ofM (L.drop (i+1)) [] acc' = R) ∧ (L.length < i + 1 → R = .ok acc')) ∧ (∀ d l e, endM doc acc = .bad d l e → R = .bad d l e)) := ⟨fun acc' h => ⟨fun _ => by have h2 := HGO.out; rw [h] at h2; exact h2, fun h2 => by have := HN.out; omega⟩, fun d l e h => by have h2 := HGO.out; rw [h] at h2; exact h2.symm⟩
          have e3 : (o.kd == 1) = true := by rw [beq_iff_eq]; exact hk1
          clear HGO hol r4 r5 f0 f1 f2 c1 c2 c3 c4 HMEM hk1
          rcases Nat.eq_zero_or_pos M with hM0 | hM0
          · subst hM0
            have hd0 : doc = [] := List.length_eq_zero_iff.1 HM.out
            have HOL2 : Hid (Ol W wr W.heap.size L R (i + 1) acc vs doc (.slice oa A oc) (.slice da 0 dc)) := by
              have h2 := HC.out.1 acc (by rw [hd0]; rfl)
              exact { HOL.out with go := fun h => by rw [hd0]; exact h2.1 h, fin := h2.2, few := ⟨by have := HOL.out.few; omega, by have := HOL.out.few; omega⟩ }
            clear hd0 hfb HC
            go_wp2_with fail
            refine ⟨⟨i + 1, acc, vs, doc, by go_num, by omega, HOL2.out⟩, by (simp [intOf]; try omega)⟩
          · have m1 : (0 : Int) < (M : Int) := by omega
            have m2 : decide (0 < M) = true := by rw [decide_eq_true_iff]; exact hM0
            obtain ⟨r, rfl⟩ := own_some HR5.out hM0
            have hD := document_any wr r 0 M dc doc (own_dt0 HR5.out HM.out hM0 (by omega) (fun t ht => HS.out.str t (HOL.out.mem t ht)))
            obtain ⟨Q, hQ⟩ : ∃ Q, docM doc = Q := ⟨_, rfl⟩
            rw [hQ] at hD
            have HQ := hideL hQ
            have hdn : doc ≠ [] := fun h => by rw [h] at HM; have := HM.out; simp at this; omega
            have HDN := hideL hdn
            have HFB := hideL hfb
            clear hQ hdn hfb
            go_wp2_with fail
            refine hD.mono ?_
            clear hD
            intro e w2 hE
            cases Q with
            | bad l er =>
              obtain ⟨rfl, hb2⟩ := hE
              have her : (er == 0) = false := by rw [beq_eq_false_iff_ne]; exact docM_err HDN.out HQ.out
              have hfb : w2.heap[w.heap.size]? = some (.cells #[.int .i64 0, .int .i64 0, .int .i64 0] 31 (0, 0)) := (hb2.block _ (Array.getElem?_eq_some_iff.1 HFB.out).1).trans HFB.out
              obtain ⟨⟨s1, s2, s3⟩, ⟨s4, s5, s6⟩, ⟨s7, s8, s9⟩, sb⟩ := set3 hfb (.int .i64 A) (.int .i64 l) (.int .i64 er)
              have HE : Hid (OfE w R (.returned (.tuple #[.slice none 0 0, .agg #[.int .i64 A, .int .i64 l, .int .i64 er]])) (((w2.setCell ⟨w.heap.size, 0, none⟩ (.int .i64 A)).setCell ⟨w.heap.size, 1, none⟩ (.int .i64 l)).setCell ⟨w.heap.size, 2, none⟩ (.int .i64 er))) := by
                have h2 := HC.out.2 A l er (by unfold endM; rw [if_neg HDN.out, HQ.out, ← HA.out])
                subst h2
                have hws := HWB.out.size
                have hbs := HOL.out.bel.size
                exact ⟨rfl, ((HWB.out.trans (HOL.out.bel.mono hws)).trans (hb2.mono (Nat.le_trans hws hbs))).trans (sb.below (Nat.le_trans (Nat.le_trans hws hbs) hb2.size) (Nat.le_refl _))⟩
              clear hfb sb hb2 HC HQ
              go_wp2_with fail
              exact bodyPost_ret (v := .tuple #[.slice none 0 0, .agg #[.int .i64 A, .int .i64 l, .int .i64 er]]) (by simp [results, Tryz.results13, go_sem, s7, s8, s9]) rfl HE.out
            | ok t =>
              obtain ⟨p, rfl, htr, hb2⟩ := hE
              have hsz := docM_size HQ.out
              have hLd := laid_any w2.heap.size (fun k => wr.heap.size ≤ k ∧ k < w2.heap.size) (fun k hk => hk.2) t.high t p w2 (.slice none 0 0) [] (Nat.le_refl _) (by simpa using hsz) (Nat.le_refl _) htr (Own.nil _ _)
              have HB2 := hideL hb2
              have HSZ := hideL hsz
              have hlm : A + 1 ≤ maxLen := by unfold maxLen; omega
              have hlb : (A + 1) * 24 ≤ 140737488355328 := by omega
              clear htr hb2 hsz
              go_wp2_with fail
              refine hLd.mono ?_
              clear hLd
              rintro e w3 ⟨v', ns, rfl, hld⟩
              obtain ⟨la, lc, rfl, _, hlc, hlc2⟩ := own_form hld.own.row
              have hb3 : Below w2.heap.size w2 w3 := ⟨hld.tch.os, hld.tch.tape, hld.tch.output, hld.tch.size, fun k hk => hld.tch.block k hk (by intro e; cases e)⟩
              have hb13 : Below wr.heap.size wr w3 := HB2.out.trans (hb3.mono HB2.out.size)
              have hot := HOL.out.out.below hb13
              have HOT := hideL hot
              have HB13 := hideL hb13
              have HOV : Hid (Own w3 W.heap.size (.slice la ([] ++ ns).length lc) ns) := own_low2 (by have h1 := hld.own; rw [List.nil_append] at h1; exact h1) (Nat.le_trans HOL.out.bel.size HB2.out.size)
              have HNS : Hid (ns.map Nx.nd = t.flat 0) := hld.nds
              have HNL : Hid (ns.length ≤ 4096) := by have h1 := congrArg List.length hld.nds; rw [flat_length] at h1; simp at h1; have := HSZ.out; show _ ≤ _; omega
              obtain ⟨X, hX⟩ : ∃ X, ([] ++ ns).length = X := ⟨_, rfl⟩
              rw [hX] at HOV hlc ⊢
              have hrow := hot.row
              rw [HA.out] at hrow
              have HRW := hideL hrow
              have HOD : Hid ((w3.alloc (Obj.cells #[.slice la X lc] 47)).ownsRow W.heap.size 47 1 (.slice oa A oc) A vs) := hrow.alloc _
              have HND : Hid (∀ j u, [Value.slice la X lc][j]? = some u → (w3.alloc (Obj.cells #[.slice la X lc] 47)).cell? ((⟨w3.heap.size, 0, none⟩ : Addr).add j) = some u) := World.news_of_block (w := w3.alloc (Obj.cells #[.slice la X lc] 47)) (Go.heap_alloc_new w3 _)
              have hbw : W.heap.size ≤ w3.heap.size := Nat.le_trans HOL.out.bel.size hb13.size
              have hszD : W.heap.size ≤ (w3.alloc (Obj.cells #[.slice la X lc] 47)).heap.size := Nat.le_trans hbw (by simp)
              have h1c : ∀ u ∈ [Value.slice la X lc], u.oneCell' = true := fun u hu => by simp at hu; subst hu; rfl
              have HBW := hideL hbw
              clear hld hb3 hb13 hot hrow hbw hX HFB
              go_wp2_with first
                | (at_builtin; refine wpList_append_at _ rfl (.tmp 51) (.tmp 54) 24 rfl W.heap.size 47 i41 _ 1 24 Tryz.underlying24 hi41 hy0 hy1 hy2 rfl (by decide) (.slice oa A oc) A vs rfl HOD.out ⟨w3.heap.size, 0, none⟩ 1 1 [.slice la X lc] rfl rfl HND.out h1c hlm hlb hszD ?_; intro v5 w5 hown5 hgrow5 hat5; have HO5 : Hid (Ots w5 W.heap.size v5 (acc ++ [t]) (vs ++ [.slice la X lc])) := HOT.out.more (mm := 0) (by rw [HA.out]; exact hown5) hgrow5 HOV.out HNS.out HNL.out; have HB5 := hideL (below_app (mm := 0) HRW.out HBW.out hgrow5); obtain ⟨a5, c5, rfl, _⟩ := own_form hown5; clear hown5 hgrow5 hat5)
              have HOL2 : Hid (Ol W w5 W.heap.size L R (i + 1) (acc ++ [t]) (vs ++ [.slice la X lc]) [] (.slice a5 (A + 1) c5) (.slice none 0 0)) := by
                have h2 := HC.out.1 (acc ++ [t]) (by unfold endM; rw [if_neg HDN.out, HQ.out])
                exact ⟨h2.1, h2.2, HO5.out, ⟨by simp [rowsT], .inl ⟨rfl, rfl⟩⟩, (HOL.out.bel.trans (HB13.out.mono HOL.out.bel.size)).trans HB5.out, ⟨by have := HOL.out.few; simp; omega, by simp⟩, fun t h => by simp at h⟩
              refine ⟨⟨i + 1, _, _, _, by go_num, by omega, HOL2.out⟩, by (simp [intOf]; try omega)⟩
        · rw [if_neg hk1] at HGO
          have e3 : (o.kd == 1) = false := by rw [beq_eq_false_iff_ne]; exact hk1
          have hlm : M + 1 ≤ maxLen := by unfold maxLen; omega
          have hlb : (M + 1) * 48 ≤ 140737488355328 := by omega
          obtain ⟨kd, line, col, tx, quo⟩ := o
          dsimp only at *
          have HOD : Hid ((wr.alloc (Obj.cells #[.int .i64 kd, .int .i64 line, .int .i64 col, .string tx, .bool quo] 61)).ownsRow W.heap.size 61 5 (.slice da M dc) M (rowsT doc)) := r5.alloc _
          have HND : Hid (∀ j u, (Tk.row ⟨kd, line, col, tx, quo⟩)[j]? = some u → (wr.alloc (Obj.cells #[.int .i64 kd, .int .i64 line, .int .i64 col, .string tx, .bool quo] 61)).cell? ((⟨wr.heap.size, 0, none⟩ : Addr).add j) = some u) := World.news_of_block (w := (wr.alloc (Obj.cells #[.int .i64 kd, .int .i64 line, .int .i64 col, .string tx, .bool quo] 61))) (Go.heap_alloc_new wr _)
          have hszD : W.heap.size ≤ (wr.alloc (Obj.cells #[.int .i64 kd, .int .i64 line, .int .i64 col, .string tx, .bool quo] 61)).heap.size := Nat.le_trans hol.bel.size (by show wr.heap.size ≤ (wr.alloc _).heap.size; simp)
          clear hol r4 r5 f0 f1 f2 hfb hk1
          go_wp2_with first
            | (at_builtin; refine wpList_append_at _ rfl (.tmp 28) (.tmp 33) 42 rfl W.heap.size 61 i53 _ 5 48 Tryz.underlying42 hi53 hx0 hx1 hx2 rfl (by decide) (.slice da M dc) M (rowsT doc) rfl HOD.out ⟨wr.heap.size, 0, none⟩ 1 1 (Tk.row ⟨kd, line, col, tx, quo⟩) rfl rfl HND.out (row_oneT _) hlm hlb hszD ?_; intro v3 w3 hown3 hgrow3 hat3; have HOL2 : Hid (Ol W w3 W.heap.size L R (i + 1) acc vs (doc ++ [⟨kd, line, col, tx, quo⟩]) (.slice oa A oc) v3) := ⟨fun h => HGO.out, fun h => by have := HN.out; omega, HOL.out.out.grown (mm := 0) HR5.out hgrow3, by (rw [rowsT_append, List.length_append, HM.out]; simpa [rowsT] using hown3), HOL.out.bel.trans (below_app (mm := 0) HR5.out HOL.out.bel.size hgrow3), ⟨by have := HOL.out.few; omega, by have := HOL.out.few; simp; omega⟩, fun t ht => by (rcases List.mem_append.1 ht with h | h; exact HOL.out.mem t h; simp at h; subst h; exact HMEM.out)⟩; obtain ⟨a3, c3', rfl, _⟩ := own_form hown3; clear hown3 hgrow3 hat3)
          refine ⟨⟨i + 1, acc, vs, _, by go_num, by omega, HOL2.out⟩, by (simp [intOf]; try omega)⟩
      · have hin' : i = n := by omega
        subst hin'
        have HC : Hid ((∀ acc', endM doc acc = .ok acc' → (i + 1 ≤ L.length → ofM (L.drop (i+1)) [] acc' = R) ∧ (L.length < i + 1 → R = .ok acc')) ∧ (∀ d l e, endM doc acc = .bad d l e → R = .bad d l e)) := by
          have h2 := hol.go (by have := HN.out; omega)
          rw [List.drop_of_length_le (by have := HN.out; omega), ofM] at h2
          exact ⟨fun acc' h => ⟨fun h3 => by have := HN.out; omega, fun _ => by rw [← h2]; exact h⟩, fun d l e h => by rw [← h2]; exact h⟩
        have e1 : decide (i < i) = false := by simp
        have e2 : ¬ (i : Int) < i := by omega
        clear hdr hol r4 r5 f0 f1 f2
        rcases Nat.eq_zero_or_pos M with hM0 | hM0
        · subst hM0
          have hd0 : doc = [] := List.length_eq_zero_iff.1 HM.out
          have HOL2 : Hid (Ol W wr W.heap.size L R (i + 1) acc vs doc (.slice oa A oc) (.slice da 0 dc)) := by
            have h2 := HC.out.1 acc (by rw [hd0]; rfl)
            exact { HOL.out with go := fun h => by rw [hd0]; exact h2.1 h, fin := h2.2, few := ⟨by have := HOL.out.few; omega, by have := HOL.out.few; omega⟩ }
          clear hd0 hfb HC
          go_wp2_with fail
          refine ⟨⟨i + 1, acc, vs, doc, by go_num, by omega, HOL2.out⟩, by (simp [intOf]; try omega)⟩
        · have m1 : (0 : Int) < (M : Int) := by omega
          have m2 : decide (0 < M) = true := by rw [decide_eq_true_iff]; exact hM0
          obtain ⟨r, rfl⟩ := own_some HR5.out hM0
          have hD := document_any wr r 0 M dc doc (own_dt0 HR5.out HM.out hM0 (by omega) (fun t ht => HS.out.str t (HOL.out.mem t ht)))
          obtain ⟨Q, hQ⟩ : ∃ Q, docM doc = Q := ⟨_, rfl⟩
          rw [hQ] at hD
          have HQ := hideL hQ
          have hdn : doc ≠ [] := fun h => by rw [h] at HM; have := HM.out; simp at this; omega
          have HDN := hideL hdn
          have HFB := hideL hfb
          clear hQ hdn hfb
          go_wp2_with fail
          refine hD.mono ?_
          clear hD
          intro e w2 hE
          cases Q with
          | bad l er =>
            obtain ⟨rfl, hb2⟩ := hE
            have her : (er == 0) = false := by rw [beq_eq_false_iff_ne]; exact docM_err HDN.out HQ.out
            have hfb : w2.heap[w.heap.size]? = some (.cells #[.int .i64 0, .int .i64 0, .int .i64 0] 31 (0, 0)) := (hb2.block _ (Array.getElem?_eq_some_iff.1 HFB.out).1).trans HFB.out
            obtain ⟨⟨s1, s2, s3⟩, ⟨s4, s5, s6⟩, ⟨s7, s8, s9⟩, sb⟩ := set3 hfb (.int .i64 A) (.int .i64 l) (.int .i64 er)
            have HE : Hid (OfE w R (.returned (.tuple #[.slice none 0 0, .agg #[.int .i64 A, .int .i64 l, .int .i64 er]])) (((w2.setCell ⟨w.heap.size, 0, none⟩ (.int .i64 A)).setCell ⟨w.heap.size, 1, none⟩ (.int .i64 l)).setCell ⟨w.heap.size, 2, none⟩ (.int .i64 er))) := by
              have h2 := HC.out.2 A l er (by unfold endM; rw [if_neg HDN.out, HQ.out, ← HA.out])
              subst h2
              have hws := HWB.out.size
              have hbs := HOL.out.bel.size
              exact ⟨rfl, ((HWB.out.trans (HOL.out.bel.mono hws)).trans (hb2.mono (Nat.le_trans hws hbs))).trans (sb.below (Nat.le_trans (Nat.le_trans hws hbs) hb2.size) (Nat.le_refl _))⟩
            clear hfb sb hb2 HC HQ
            go_wp2_with fail
            exact bodyPost_ret (v := .tuple #[.slice none 0 0, .agg #[.int .i64 A, .int .i64 l, .int .i64 er]]) (by simp [results, Tryz.results13, go_sem, s7, s8, s9]) rfl HE.out
          | ok t =>
            obtain ⟨p, rfl, htr, hb2⟩ := hE
            have hsz := docM_size HQ.out
            have hLd := laid_any w2.heap.size (fun k => wr.heap.size ≤ k ∧ k < w2.heap.size) (fun k hk => hk.2) t.high t p w2 (.slice none 0 0) [] (Nat.le_refl _) (by simpa using hsz) (Nat.le_refl _) htr (Own.nil _ _)
            have HB2 := hideL hb2
            have HSZ := hideL hsz
            have hlm : A + 1 ≤ maxLen := by unfold maxLen; omega
            have hlb : (A + 1) * 24 ≤ 140737488355328 := by omega
            clear htr hb2 hsz
            go_wp2_with fail
            refine hLd.mono ?_
            clear hLd
            rintro e w3 ⟨v', ns, rfl, hld⟩
            obtain ⟨la, lc, rfl, _, hlc, hlc2⟩ := own_form hld.own.row
            have hb3 : Below w2.heap.size w2 w3 := ⟨hld.tch.os, hld.tch.tape, hld.tch.output, hld.tch.size, fun k hk => hld.tch.block k hk (by intro e; cases e)⟩
            have hb13 : Below wr.heap.size wr w3 := HB2.out.trans (hb3.mono HB2.out.size)
            have hot := HOL.out.out.below hb13
            have HOT := hideL hot
            have HB13 := hideL hb13
            have HOV : Hid (Own w3 W.heap.size (.slice la ([] ++ ns).length lc) ns) := own_low2 (by have h1 := hld.own; rw [List.nil_append] at h1; exact h1) (Nat.le_trans HOL.out.bel.size HB2.out.size)
            have HNS : Hid (ns.map Nx.nd = t.flat 0) := hld.nds
            have HNL : Hid (ns.length ≤ 4096) := by have h1 := congrArg List.length hld.nds; rw [flat_length] at h1; simp at h1; have := HSZ.out; show _ ≤ _; omega
            obtain ⟨X, hX⟩ : ∃ X, ([] ++ ns).length = X := ⟨_, rfl⟩
            rw [hX] at HOV hlc ⊢
            have hrow := hot.row
            rw [HA.out] at hrow
            have HRW := hideL hrow
            have HOD : Hid ((w3.alloc (Obj.cells #[.slice la X lc] 47)).ownsRow W.heap.size 47 1 (.slice oa A oc) A vs) := hrow.alloc _
            have HND : Hid (∀ j u, [Value.slice la X lc][j]? = some u → (w3.alloc (Obj.cells #[.slice la X lc] 47)).cell? ((⟨w3.heap.size, 0, none⟩ : Addr).add j) = some u) := World.news_of_block (w := w3.alloc (Obj.cells #[.slice la X lc] 47)) (Go.heap_alloc_new w3 _)
            have hbw : W.heap.size ≤ w3.heap.size := Nat.le_trans HOL.out.bel.size hb13.size
            have hszD : W.heap.size ≤ (w3.alloc (Obj.cells #[.slice la X lc] 47)).heap.size := Nat.le_trans hbw (by simp)
            have h1c : ∀ u ∈ [Value.slice la X lc], u.oneCell' = true := fun u hu => by simp at hu; subst hu; rfl
            have HBW := hideL hbw
            clear hld hb3 hb13 hot hrow hbw hX HFB
            go_wp2_with first
              | (at_builtin; refine wpList_append_at _ rfl (.tmp 51) (.tmp 54) 24 rfl W.heap.size 47 i41 _ 1 24 Tryz.underlying24 hi41 hy0 hy1 hy2 rfl (by decide) (.slice oa A oc) A vs rfl HOD.out ⟨w3.heap.size, 0, none⟩ 1 1 [.slice la X lc] rfl rfl HND.out h1c hlm hlb hszD ?_; intro v5 w5 hown5 hgrow5 hat5; have HO5 : Hid (Ots w5 W.heap.size v5 (acc ++ [t]) (vs ++ [.slice la X lc])) := HOT.out.more (mm := 0) (by rw [HA.out]; exact hown5) hgrow5 HOV.out HNS.out HNL.out; have HB5 := hideL (below_app (mm := 0) HRW.out HBW.out hgrow5); obtain ⟨a5, c5, rfl, _⟩ := own_form hown5; clear hown5 hgrow5 hat5)
            have HOL2 : Hid (Ol W w5 W.heap.size L R (i + 1) (acc ++ [t]) (vs ++ [.slice la X lc]) [] (.slice a5 (A + 1) c5) (.slice none 0 0)) := by
              have h2 := HC.out.1 (acc ++ [t]) (by unfold endM; rw [if_neg HDN.out, HQ.out])
              exact ⟨h2.1, h2.2, HO5.out, ⟨by simp [rowsT], .inl ⟨rfl, rfl⟩⟩, (HOL.out.bel.trans (HB13.out.mono HOL.out.bel.size)).trans HB5.out, ⟨by have := HOL.out.few; simp; omega, by simp⟩, fun t h => by simp at h⟩
            refine ⟨⟨i + 1, _, _, _, by go_num, by omega, HOL2.out⟩, by (simp [intOf]; try omega)⟩
    · have h3' : ¬ (i : Int) ≤ n := by omega
      have h3n : decide (i ≤ n) = false := by rw [decide_eq_false_iff_not]; omega
      obtain ⟨⟨s1, s2, s3⟩, ⟨s4, s5, s6⟩, ⟨s7, s8, s9⟩, sb⟩ := set3 hfb (.int .i64 0) (.int .i64 0) (.int .i64 0)
      have HE : Hid (OfE w R (.returned (.tuple #[.slice oa A oc, .agg #[.int .i64 0, .int .i64 0, .int .i64 0]])) (((wr.setCell ⟨w.heap.size, 0, none⟩ (.int .i64 0)).setCell ⟨w.heap.size, 1, none⟩ (.int .i64 0)).setCell ⟨w.heap.size, 2, none⟩ (.int .i64 0))) := by
        have hf := hol.fin (by have := HN.out; omega)
        subst hf
        have ho := hol.out
        have hne : ∀ {e : TypeId} {s : Nat} {v : Value} {k : Nat} {xs : List Value}, wr.ownsRow W.heap.size e s v k xs → ∀ r, v.ownBlock = some r → r < wr.heap.size ∧ r ≠ w.heap.size := fun h r hr => ⟨(h.lt r hr).2, by have := (h.lt r hr).1; omega⟩
        refine ⟨_, vs, rfl, ⟨own_low' (own_block ho.row fun k hk => sb.block k (hne ho.row k hk).1 (hne ho.row k hk).2) (by omega), fun j t hj => ?_⟩, (HWB.out.trans (hol.bel.mono (by omega))).trans (sb.below (Nat.le_trans HWB.out.size hol.bel.size) (Nat.le_refl _))⟩
        obtain ⟨x, ns, h1, h2, h3, h4⟩ := ho.each j t hj
        exact ⟨x, ns, h1, own_low2 (h2.keep (fun k hk => sb.block k (hne h2.row k hk).1 (hne h2.row k hk).2) (fun o ho' k hk => sb.block k (hne (h2.kids o ho').1 k hk).1 (hne (h2.kids o ho').1 k hk).2)) (by omega), h3, h4⟩
      clear hol r4 r5 f0 f1 f2 sb hfb
      go_wp2_with fail
      exact bodyPost_ret (v := .tuple #[.slice oa A oc, .agg #[.int .i64 0, .int .i64 0, .int .i64 0]]) (by simp [results, Tryz.results13, go_sem, s7, s8, s9]) rfl HE.out
end Go.Proofs.YtmmnpnhffgpchaaGreatDoor
