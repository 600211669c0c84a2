/-
  Loose changes of the directory that are made to last.
-/
import Derived.Test.YtkmohpdcchpndaaDchg
import Derived.Test.YtkmohpdcchpndaaKeep
namespace Go.Proofs.Ytkmohpdcchpndaa
open Go.RowKit
set_option linter.unusedVariables false
set_option linter.unusedSimpArgs false
set_option maxRecDepth 100000
/-- i of the changes are made to last -/
structure Kdd (w W : World) (base b : Nat) (f : Dr) (i : Nat) (g : Dr) : Prop where
  ft : Dt w W base b f g
  ls : g.ls = f.ls
  lo : g.lo = f.lo
  nv : g.nv = f.nv
  now : g.now = f.now
  bn : g.bn = f.bn
  bl : g.bl ≤ f.bl + i
  oth : g.c0 = f.c0 ∧ g.c1 = f.c1 ∧ g.c2 = f.c2 ∧ g.c6 = f.c6 ∧ g.c7 = f.c7
  rp : Rd f.last (f.ls.take i) g.last
theorem Kdd.start {w : World} {base b : Nat} {f : Dr} (h : Dir w base b f) : Kdd w w base b f 0 f := ⟨Dt.refl h, rfl, rfl, rfl, rfl, rfl, Nat.le_refl _, ⟨rfl, rfl, rfl, rfl, rfl⟩, by simp [Rd]⟩
theorem take_succD {l : List Ld} {i : Nat} {x : Ld} (h : l[i]? = some x) : l.take (i + 1) = l.take i ++ [x] := by
  rw [List.take_add_one, h]; rfl
theorem Kdd.ok {w W : World} {base b : Nat} {f g : Dr} {i n : Nat} {z : Option (DataW Unit)} {x : Ld} (h : Kdd w W base b f i g) (hz : Rd f.last (f.ls.take n) z) (hi : i < n) (hx : f.ls[i]? = some x) : x.c.ok g.last := by
  have hil := (List.getElem?_eq_some_iff.1 hx).1
  obtain ⟨y, h1, h2⟩ := hz.at i (by simp; omega)
  rw [List.take_take, Nat.min_eq_left (by omega)] at h1
  have e := h1.det h.rp
  subst e
  have hd : (f.ls.take n).drop i = x :: (f.ls.take n).drop (i + 1) := by
    rw [List.drop_eq_getElem_cons (by simp; omega)]
    congr 1
    simp
    exact (List.getElem?_eq_some_iff.1 hx).2
  rw [hd] at h2
  exact h2.1
theorem Kdd.step {w W w1 : World} {base b : Nat} {f g : Dr} {i n : Nat} {z : Option (DataW Unit)} {x : Ld} {O : Obj} {v : Value} (h : Kdd w W base b f i g) (hz : Rd f.last (f.ls.take n) z) (hi : i < n) (hx : f.ls[i]? = some x) (hB : Dm w1 base v (x.c.do g.last) (g.bl + 1)) (hg : (W.alloc O).drew.grownBy w1 (mblk g.lv)) (hat : mblk v = mblk g.lv ∨ ∀ k, mblk v = some k → (W.alloc O).drew.heap.size ≤ k) :
    ∃ g', Kdd w (w1.setCell ⟨b, 3, none⟩ v) base b f (i + 1) g' := by
  have hw0 : ∀ k, k < W.heap.size → (W.alloc O).drew.heap[k]? = W.heap[k]? := fun k hk => Below.heap_alloc W O k hk
  have o1 := h.ok hz hi hx
  have ft := dlast_turn (h.ft.fil.below hw0) hB hg hat
  have hb0 : Below W.heap.size W (W.alloc O).drew := ((Below.refl _ _).alloc (Nat.le_refl _) _).drew
  refine ⟨_, h.ft.trans (ft.after hb0), h.ls, h.lo, h.nv, h.now, h.bn, by have := h.bl; show g.bl + 1 ≤ _; omega, h.oth, ?_⟩
  rw [take_succD hx]
  exact h.rp.app x o1
theorem Kdd.cells {w W : World} {base b : Nat} {f g : Dr} {i : Nat} {x : Ld} (h : Kdd w W base b f i g) (j : Nat) (hx : f.ls[j]? = some x) : ∃ r k, f.lo = .slice (some ⟨r, 0, none⟩) f.ls.length k ∧ W.cell? ⟨r, j * 3, none⟩ = some x.d ∧ W.cell? ⟨r, j * 3 + 1, none⟩ = some (.int .i64 0) ∧ W.cell? ⟨r, j * 3 + 2, none⟩ = some (.bool false) := by
  have hr := h.ft.fil.row
  rw [h.ls, h.lo] at hr
  have hj := (List.getElem?_eq_some_iff.1 hx).1
  rcases hr.2 with ⟨_, h0⟩ | ⟨r, k, cur, e, _⟩
  · omega
  · rw [e] at hr
    obtain ⟨e1, e2, e3⟩ := rowOfD_get f.ls j x hx
    exact ⟨r, k, e, (hr.cellAt _ (by omega)).trans e1, (hr.cellAt _ (by omega)).trans e2, (hr.cellAt _ (by omega)).trans e3⟩
theorem Kdd.call {w W : World} {base b : Nat} {f g : Dr} {i n : Nat} {z : Option (DataW Unit)} {x : Ld} (h : Kdd w W base b f i g) (hz : Rd f.last (f.ls.take n) z) (hi : i < n) (hx : f.ls[i]? = some x) (hb : f.bl + n < 1000000000) (hbase : base ≤ w.heap.size) (O : Obj) : ∃ mo, g.lv = .map mo ∧ W.heap[b]? = some (.cells #[g.c0, g.c1, g.c2, .map mo, g.lo, g.nv, g.c6, g.c7] 69 (0, 0)) ∧ DDo (W.alloc O).drew base x.c x.d mo g.last g.bl := by
  obtain ⟨mo, hlv⟩ := h.ft.fil.last.shape
  have o1 := h.ok hz hi hx
  have hw0 : ∀ k, k < W.heap.size → (W.alloc O).drew.heap[k]? = W.heap[k]? := fun k hk => Below.heap_alloc W O k hk
  have hxm : x ∈ g.ls := by rw [h.ls]; exact List.mem_of_getElem? hx
  have hF := h.ft.fil.chg x hxm
  refine ⟨mo, hlv, by rw [← hlv]; exact h.ft.fil.blk, ?_⟩
  have := h.bl
  exact ddo_any (W.alloc O).drew base x.c x.d x.ro mo g.last g.bl (hF.keep fun k hk => hw0 k (hF.lt k hk).2) (by rw [← hlv]; exact h.ft.fil.last.keep fun k hk => hw0 k (h.ft.fil.last.low hk).2) o1 (by omega) (by have := h.ft.turn.size; simp; omega)
set_option maxHeartbeats 4000000 in
theorem dkeep_any (w : World) (base b : Nat) (f : Dr) (n : Nat) (z : Option (DataW Unit)) (h : Dir w base b f) (hn : n ≤ f.ls.length) (hz : Rd f.last (f.ls.take n) z) (hls : f.ls.length ≤ 1000000000) (hbl : f.bl + n < 1000000000) (hbase : base ≤ w.heap.size) :
    Calls Try.prog 58 #[.pointer (some ⟨b, 3, none⟩), .int .i64 n] w fun e w' => e = .returned (.tuple #[]) ∧ ∃ g, Kdd w w' base b f n g ∧ g.last = z := by
  obtain ⟨a0, k0, hlo⟩ := own_slice h.row
  have hbk := h.blk
  rw [hlo] at hbk
  have c1 : w.cell? ⟨b, 4, none⟩ = some (.slice a0 f.ls.length k0) := by rw [cell_block hbk]; rfl
  have hcap : f.ls.length ≤ k0 ∧ k0 ≤ maxLen ∧ (a0 = none → k0 = 0) := by
    rcases h.row.2 with ⟨e, h0⟩ | ⟨r, k, cur, e, _, _, h1, h2, _⟩
    · rw [hlo] at e; injection e with e1 e2 e3; exact ⟨by omega, by rw [e3]; decide, fun _ => e3⟩
    · rw [hlo] at e; injection e with e1 e2 e3; subst e3; exact ⟨by omega, h2, fun e => by rw [e] at e1; cases e1⟩
  obtain ⟨hc1, hc2, hc3⟩ := hcap
  unfold maxLen at hc2
  obtain ⟨L, hL⟩ : ∃ L, f.ls.length = L := ⟨_, rfl⟩
  rw [hL] at c1 hn hls hc1
  have n0 : (0 : Int) ≤ n := by omega
  have HS : Hid (Kdd w w base b f 0 f) := Kdd.start h
  have HZ : Hid (Rd f.last (f.ls.take n) z ∧ base ≤ w.heap.size ∧ f.ls.length = L ∧ f.lo = .slice a0 L k0 ∧ f.bl + n < 1000000000) := ⟨hz, hbase, hL, by rw [← hL]; exact hlo, hbl⟩
  have hnk : (n : Int) ≤ k0 := by omega
  clear h hz hbase hL hlo hbk hbl
  have hend : ∀ (W : World) (g : Dr), Kdd w W base b f n g → g.last = z := fun W g hk => hk.rp.det HZ.out.1
  cases a0 with
  | none =>
    obtain rfl := hc3 rfl
    obtain rfl : L = 0 := by omega
    obtain rfl : n = 0 := by omega
    have HE : Hid (∃ g, Kdd w w base b f 0 g ∧ g.last = z) := ⟨f, HS.out, hend _ _ HS.out⟩
    clear hend
    go_enter Try.func58, Try.ntmps58
    go_wp2_with fail
    go_loopw [13] (fun t W => t = .int .i64 0 ∧ W = w) (fun t _ => 0)
    case atStart => exact ⟨rfl, rfl⟩
    case round =>
      obtain ⟨rfl, hwr⟩ := hrel
      have hwr := hwr.symm
      subst hwr
      go_wp2_with fail
      go_end0
      exact ⟨rfl, HE.out⟩
  | some r =>
    go_enter Try.func58, Try.ntmps58
    go_wp2_with fail
    go_loopw [13] (fun t W => ∃ (i : Nat) (g : Dr), i ≤ n ∧ t = .int .i64 i ∧ Kdd w W base b f i g) (fun t _ => n - (intOf t).toNat)
    case atStart => exact ⟨0, f, by omega, rfl, HS.out⟩
    case round =>
      obtain ⟨i, g, hi', rfl, hK⟩ := hrel
      have i0 : (0 : Int) ≤ i := by omega
      by_cases hin : i < n
      · have hii : (i : Int) < n := by omega
        obtain ⟨x, hx⟩ : ∃ x, f.ls[i]? = some x := ⟨f.ls[i]'(by have := HZ.out.2.2.1; omega), List.getElem?_eq_getElem _⟩
        obtain ⟨g0, k1, hlo1, d0, d1, d2⟩ := hK.cells i hx
        have hr0 : r = ⟨g0, 0, none⟩ := by
          have := HZ.out.2.2.2.1
          rw [hlo1] at this
          injection this with this
          injection this with this
          exact this.symm
        subst hr0
        clear hlo1
        have hcl := fun O => hK.call HZ.out.1 hin hx HZ.out.2.2.2.2 HZ.out.2.1 O
        have hst := fun (O : Obj) (w1 : World) (v : Value) hB hg hat => hK.step (O := O) (w1 := w1) (v := v) HZ.out.1 hin hx hB hg hat
        have hnb := ((nod3 b (mblk g.lv) (mblk g.nv) g.lo.ownBlock).1 hK.ft.fil.nod).1
        obtain ⟨xd, xc, xro⟩ := x
        have hFv := hK.ft.fil.chg ⟨xd, xc, xro⟩ (by rw [hK.ls]; exact List.mem_of_getElem? hx)
        cases xc with
        | nm name num =>
          obtain ⟨nb, sb, hd, _⟩ := hFv
          dsimp only at hd
          subst hd
          obtain ⟨O, hO⟩ : ∃ O, O = Obj.cells #[.func (.func 65) #[] #[.pointer (some ⟨nb, 0, none⟩), .pointer (some ⟨sb, 0, none⟩)], .int .i64 0, .bool false] 88 (0, 0) := ⟨_, rfl⟩
          obtain ⟨mo, hlv, hbk, hD⟩ := hcl O
          have hD := hD nb sb rfl
          have hb0 : (wr.alloc O).heap[b]? = some (.cells #[g.c0, g.c1, g.c2, .map mo, g.lo, g.nv, g.c6, g.c7] 69 (0, 0)) := (Below.heap_alloc wr O b (lt_of_block hbk)).trans hbk
          have c0 : (wr.alloc O).drew.cell? ⟨b, 3, none⟩ = some (.map mo) := (by rw [cell_block hb0]; rfl : (wr.alloc O).cell? ⟨b, 3, none⟩ = some (.map mo))
          have e0 : (wr.alloc O).heap[wr.heap.size]? = some (.cells #[.func (.func 65) #[] #[.pointer (some ⟨nb, 0, none⟩), .pointer (some ⟨sb, 0, none⟩)], .int .i64 0, .bool false] 88 (0, 0)) := (Go.heap_alloc_new wr O).trans (by rw [hO])
          have f0 : (wr.alloc O).drew.cell? ⟨wr.heap.size, 0, none⟩ = some (.func (.func 65) #[] #[.pointer (some ⟨nb, 0, none⟩), .pointer (some ⟨sb, 0, none⟩)]) := (by rw [cell_block e0]; rfl : (wr.alloc O).cell? ⟨wr.heap.size, 0, none⟩ = some (.func (.func 65) #[] #[.pointer (some ⟨nb, 0, none⟩), .pointer (some ⟨sb, 0, none⟩)]))
          have f1 : (wr.alloc O).drew.cell? ⟨wr.heap.size, 1, none⟩ = some (.int .i64 0) := (by rw [cell_block e0]; rfl : (wr.alloc O).cell? ⟨wr.heap.size, 1, none⟩ = some (.int .i64 0))
          have HD : Hid (Calls Try.prog 65 #[.map mo, .int .i64 0, .pointer (some ⟨nb, 0, none⟩), .pointer (some ⟨sb, 0, none⟩)] (wr.alloc O).drew fun e w1 => ∃ m1, e = .returned (.map m1) ∧ w1.cell? ⟨b, 3, none⟩ = some (.map mo) ∧ w1.frozen? ⟨b, 3, none⟩ = false ∧ ∃ g', Kdd w (w1.setCell ⟨b, 3, none⟩ (.map m1)) base b f (i + 1) g') := by
            refine Calls.mono hD ?_
            rintro e w1 ⟨m1, rfl, hB, hg, hat⟩
            rw [← hlv] at hg hat
            have hb1 : w1.heap[b]? = some (.cells #[g.c0, g.c1, g.c2, .map mo, g.lo, g.nv, g.c6, g.c7] 69 (0, 0)) := (hg.block b (lt_of_block hb0) (fun e => hnb e.symm)).trans hb0
            exact ⟨m1, rfl, by rw [cell_block hb1]; rfl, by simp [World.frozen?, hb1], hst O w1 _ hB hg hat⟩
          clear hD hst hcl hbk hb0 e0 hK hx hend hlv hnb
          subst hO
          have st := st_func
          go_wp2_with fail
          clear st
          go_region_with (first | (go_at_call 65; refine HD.out.mono ?_; rintro e w1 ⟨m1, rfl, x0, x1, hm⟩; have HM : Hid (∃ g', Kdd w (w1.setCell ⟨b, 3, none⟩ (.map m1)) base b f (i + 1) g') := hm; clear hm))
          all_goals
            go_wp2_with fail
            case roundEnd => obtain ⟨g', hm⟩ := HM.out; exact ⟨⟨i + 1, g', by omega, rfl, hm⟩, by simp [intOf]; omega⟩
        | rn fr to_ num =>
          obtain ⟨fb, nb, tb, hd, _⟩ := hFv
          dsimp only at hd
          subst hd
          obtain ⟨O, hO⟩ : ∃ O, O = Obj.cells #[.func (.func 68) #[] #[.pointer (some ⟨fb, 0, none⟩), .pointer (some ⟨nb, 0, none⟩), .pointer (some ⟨tb, 0, none⟩)], .int .i64 0, .bool false] 88 (0, 0) := ⟨_, rfl⟩
          obtain ⟨mo, hlv, hbk, hD⟩ := hcl O
          have hD := hD fb nb tb rfl
          have hb0 : (wr.alloc O).heap[b]? = some (.cells #[g.c0, g.c1, g.c2, .map mo, g.lo, g.nv, g.c6, g.c7] 69 (0, 0)) := (Below.heap_alloc wr O b (lt_of_block hbk)).trans hbk
          have c0 : (wr.alloc O).drew.cell? ⟨b, 3, none⟩ = some (.map mo) := (by rw [cell_block hb0]; rfl : (wr.alloc O).cell? ⟨b, 3, none⟩ = some (.map mo))
          have e0 : (wr.alloc O).heap[wr.heap.size]? = some (.cells #[.func (.func 68) #[] #[.pointer (some ⟨fb, 0, none⟩), .pointer (some ⟨nb, 0, none⟩), .pointer (some ⟨tb, 0, none⟩)], .int .i64 0, .bool false] 88 (0, 0)) := (Go.heap_alloc_new wr O).trans (by rw [hO])
          have f0 : (wr.alloc O).drew.cell? ⟨wr.heap.size, 0, none⟩ = some (.func (.func 68) #[] #[.pointer (some ⟨fb, 0, none⟩), .pointer (some ⟨nb, 0, none⟩), .pointer (some ⟨tb, 0, none⟩)]) := (by rw [cell_block e0]; rfl : (wr.alloc O).cell? ⟨wr.heap.size, 0, none⟩ = some (.func (.func 68) #[] #[.pointer (some ⟨fb, 0, none⟩), .pointer (some ⟨nb, 0, none⟩), .pointer (some ⟨tb, 0, none⟩)]))
          have f1 : (wr.alloc O).drew.cell? ⟨wr.heap.size, 1, none⟩ = some (.int .i64 0) := (by rw [cell_block e0]; rfl : (wr.alloc O).cell? ⟨wr.heap.size, 1, none⟩ = some (.int .i64 0))
          have HD : Hid (Calls Try.prog 68 #[.map mo, .int .i64 0, .pointer (some ⟨fb, 0, none⟩), .pointer (some ⟨nb, 0, none⟩), .pointer (some ⟨tb, 0, none⟩)] (wr.alloc O).drew fun e w1 => ∃ m1, e = .returned (.map m1) ∧ w1.cell? ⟨b, 3, none⟩ = some (.map mo) ∧ w1.frozen? ⟨b, 3, none⟩ = false ∧ ∃ g', Kdd w (w1.setCell ⟨b, 3, none⟩ (.map m1)) base b f (i + 1) g') := by
            refine Calls.mono hD ?_
            rintro e w1 ⟨m1, rfl, hB, hg, hat⟩
            rw [← hlv] at hg hat
            have hb1 : w1.heap[b]? = some (.cells #[g.c0, g.c1, g.c2, .map mo, g.lo, g.nv, g.c6, g.c7] 69 (0, 0)) := (hg.block b (lt_of_block hb0) (fun e => hnb e.symm)).trans hb0
            exact ⟨m1, rfl, by rw [cell_block hb1]; rfl, by simp [World.frozen?, hb1], hst O w1 _ hB hg hat⟩
          clear hD hst hcl hbk hb0 e0 hK hx hend hlv hnb
          subst hO
          have st := st_func
          go_wp2_with fail
          clear st
          go_region_with (first | (go_at_call 68; refine HD.out.mono ?_; rintro e w1 ⟨m1, rfl, x0, x1, hm⟩; have HM : Hid (∃ g', Kdd w (w1.setCell ⟨b, 3, none⟩ (.map m1)) base b f (i + 1) g') := hm; clear hm))
          all_goals
            go_wp2_with fail
            case roundEnd => obtain ⟨g', hm⟩ := HM.out; exact ⟨⟨i + 1, g', by omega, rfl, hm⟩, by simp [intOf]; omega⟩
        | rm name =>
          obtain ⟨sb, hd, _⟩ := hFv
          dsimp only at hd
          subst hd
          obtain ⟨O, hO⟩ : ∃ O, O = Obj.cells #[.func (.func 75) #[] #[.pointer (some ⟨sb, 0, none⟩)], .int .i64 0, .bool false] 88 (0, 0) := ⟨_, rfl⟩
          obtain ⟨mo, hlv, hbk, hD⟩ := hcl O
          have hD := hD sb rfl
          have hb0 : (wr.alloc O).heap[b]? = some (.cells #[g.c0, g.c1, g.c2, .map mo, g.lo, g.nv, g.c6, g.c7] 69 (0, 0)) := (Below.heap_alloc wr O b (lt_of_block hbk)).trans hbk
          have c0 : (wr.alloc O).drew.cell? ⟨b, 3, none⟩ = some (.map mo) := (by rw [cell_block hb0]; rfl : (wr.alloc O).cell? ⟨b, 3, none⟩ = some (.map mo))
          have e0 : (wr.alloc O).heap[wr.heap.size]? = some (.cells #[.func (.func 75) #[] #[.pointer (some ⟨sb, 0, none⟩)], .int .i64 0, .bool false] 88 (0, 0)) := (Go.heap_alloc_new wr O).trans (by rw [hO])
          have f0 : (wr.alloc O).drew.cell? ⟨wr.heap.size, 0, none⟩ = some (.func (.func 75) #[] #[.pointer (some ⟨sb, 0, none⟩)]) := (by rw [cell_block e0]; rfl : (wr.alloc O).cell? ⟨wr.heap.size, 0, none⟩ = some (.func (.func 75) #[] #[.pointer (some ⟨sb, 0, none⟩)]))
          have f1 : (wr.alloc O).drew.cell? ⟨wr.heap.size, 1, none⟩ = some (.int .i64 0) := (by rw [cell_block e0]; rfl : (wr.alloc O).cell? ⟨wr.heap.size, 1, none⟩ = some (.int .i64 0))
          have HD : Hid (Calls Try.prog 75 #[.map mo, .int .i64 0, .pointer (some ⟨sb, 0, none⟩)] (wr.alloc O).drew fun e w1 => ∃ m1, e = .returned (.map m1) ∧ w1.cell? ⟨b, 3, none⟩ = some (.map mo) ∧ w1.frozen? ⟨b, 3, none⟩ = false ∧ ∃ g', Kdd w (w1.setCell ⟨b, 3, none⟩ (.map m1)) base b f (i + 1) g') := by
            refine Calls.mono hD ?_
            rintro e w1 ⟨m1, rfl, hB, hg, hat⟩
            rw [← hlv] at hg hat
            have hb1 : w1.heap[b]? = some (.cells #[g.c0, g.c1, g.c2, .map mo, g.lo, g.nv, g.c6, g.c7] 69 (0, 0)) := (hg.block b (lt_of_block hb0) (fun e => hnb e.symm)).trans hb0
            exact ⟨m1, rfl, by rw [cell_block hb1]; rfl, by simp [World.frozen?, hb1], hst O w1 _ hB hg hat⟩
          clear hD hst hcl hbk hb0 e0 hK hx hend hlv hnb
          subst hO
          have st := st_func
          go_wp2_with fail
          clear st
          go_region_with (first | (go_at_call 75; refine HD.out.mono ?_; rintro e w1 ⟨m1, rfl, x0, x1, hm⟩; have HM : Hid (∃ g', Kdd w (w1.setCell ⟨b, 3, none⟩ (.map m1)) base b f (i + 1) g') := hm; clear hm))
          all_goals
            go_wp2_with fail
            case roundEnd => obtain ⟨g', hm⟩ := HM.out; exact ⟨⟨i + 1, g', by omega, rfl, hm⟩, by simp [intOf]; omega⟩
      · have hii : ¬ (i : Int) < n := by omega
        obtain rfl : i = n := by omega
        have HE : Hid (∃ g, Kdd w wr base b f i g ∧ g.last = z) := ⟨g, hK, hend _ _ hK⟩
        clear hend hK
        go_wp2_with fail
        go_end0
        exact ⟨rfl, HE.out⟩
end Go.Proofs.Ytkmohpdcchpndaa
