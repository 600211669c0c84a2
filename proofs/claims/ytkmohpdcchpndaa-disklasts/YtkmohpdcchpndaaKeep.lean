/-
  Loose changes of a file that are made to last.
-/
import Derived.Test.YtkmohpdcchpndaaFchg
namespace Go.Proofs.Ytkmohpdcchpndaa
open Go.RowKit
set_option linter.unusedVariables false
set_option linter.unusedSimpArgs false
set_option maxRecDepth 100000
/-- i of the changes are made to last -/
structure Kst (w W : World) (base b : Nat) (f : Fs) (i : Nat) (g : Fs) : Prop where
  ft : Ft w W base b f g
  ls : g.ls = f.ls
  lo : g.lo = f.lo
  nv : g.nv = f.nv
  now : g.now = f.now
  rp : Rp f.last (f.ls.take i) g.last
theorem Kst.start {w : World} {base b : Nat} {f : Fs} {n : Nat} {z : List Int} (h : Fil w base b f) (hz : Rp f.last (f.ls.take n) z) : Kst w w base b f 0 f := ⟨Ft.refl h, rfl, rfl, rfl, rfl, by simpa [Rp] using hz.small⟩
theorem take_succ {l : List Lc} {i : Nat} {x : Lc} (h : l[i]? = some x) : l.take (i + 1) = l.take i ++ [x] := by
  rw [List.take_add_one, h]; rfl
/-- the next change can be done -/
theorem Kst.ok {w W : World} {base b : Nat} {f g : Fs} {i n : Nat} {z : List Int} {x : Lc} (h : Kst w W base b f i g) (hz : Rp f.last (f.ls.take n) z) (hi : i < n) (hx : f.ls[i]? = some x) : x.c.ok g.last ∧ g.last.length ≤ 1099511627776 ∧ x.c.size ≤ 1099511627776 ∧ (x.c.do g.last x.c.size).length ≤ 1099511627776 := by
  have hil := (List.getElem?_eq_some_iff.1 hx).1
  obtain ⟨y, h1, h2⟩ := hz.at i (by simp; omega)
  rw [List.take_take, Nat.min_eq_left (by omega)] at h1
  have e := h1.det h.rp
  subst e
  have hd : (f.ls.take n).drop i = x :: (f.ls.take n).drop (i + 1) := by
    rw [List.drop_eq_getElem_cons (by simp; omega)]
    congr 1
    simp
    exact (List.getElem?_eq_some_iff.1 hx).2
  rw [hd] at h2
  exact ⟨h2.1.1, h2.1.2.1, h2.1.2.2, h2.2.small⟩
/-- a step -/
theorem Kst.step {w W w1 : World} {base b : Nat} {f g : Fs} {i n : Nat} {z : List Int} {x : Lc} {O : Obj} {v : Value} (h : Kst w W base b f i g) (hz : Rp f.last (f.ls.take n) z) (hi : i < n) (hx : f.ls[i]? = some x) (hB : Buf w1 base v (x.c.do g.last x.c.size)) (hg : (W.alloc O).drew.grownBy w1 g.lv.ownBlock) (hat : v.ownBlock = g.lv.ownBlock ∨ ∀ k, v.ownBlock = some k → (W.alloc O).drew.heap.size ≤ k) :
    ∃ g', Kst w (w1.setCell ⟨b, 0, none⟩ v) base b f (i + 1) g' := by
  have hw0 : ∀ k, k < W.heap.size → (W.alloc O).drew.heap[k]? = W.heap[k]? := fun k hk => Below.heap_alloc W O k hk
  obtain ⟨o1, o2, o3, o4⟩ := h.ok hz hi hx
  have ft := last_turn (h.ft.fil.below hw0) hB hg hat
  have hb0 : Below W.heap.size W (W.alloc O).drew := ((Below.refl _ _).alloc (Nat.le_refl _) _).drew
  refine ⟨_, h.ft.trans (ft.after hb0), h.ls, h.lo, h.nv, h.now, ?_⟩
  rw [take_succ hx]
  exact h.rp.app x o1 o3 o4
theorem Kst.cells {w W : World} {base b : Nat} {f g : Fs} {i : Nat} {x : Lc} (h : Kst w W base b f i g) (j : Nat) (hx : f.ls[j]? = some x) : ∃ r k, f.lo = .slice (some ⟨r, 0, none⟩) f.ls.length k ∧ W.cell? ⟨r, j * 3, none⟩ = some x.d ∧ W.cell? ⟨r, j * 3 + 1, none⟩ = some (.int .i64 x.c.size) ∧ W.cell? ⟨r, j * 3 + 2, none⟩ = some (.bool x.c.tears) := by
  have hr := h.ft.fil.row
  rw [h.ls, h.lo] at hr
  have hj := (List.getElem?_eq_some_iff.1 hx).1
  rcases hr.2 with ⟨_, h0⟩ | ⟨r, k, cur, e, _⟩
  · omega
  · rw [e] at hr
    obtain ⟨e1, e2, e3⟩ := rowOf_get f.ls j x hx
    exact ⟨r, k, e, (hr.cellAt _ (by omega)).trans e1, (hr.cellAt _ (by omega)).trans e2, (hr.cellAt _ (by omega)).trans e3⟩
/-- the call of a change in the midst of keep -/
theorem Kst.call {w W : World} {base b : Nat} {f g : Fs} {i n : Nat} {z : List Int} {x : Lc} (h : Kst w W base b f i g) (hz : Rp f.last (f.ls.take n) z) (hi : i < n) (hx : f.ls[i]? = some x) (hbase : base ≤ w.heap.size) (O : Obj) : ∃ ao cap L, g.lv = .slice ao L cap ∧ g.last.length = L ∧ W.heap[b]? = some (.cells #[.slice ao L cap, g.lo, g.nv] 75 (0, 0)) ∧ DoCall (W.alloc O).drew base x.c x.d ao cap g.last x.c.size := by
  obtain ⟨ao, cap, hlv, _⟩ := h.ft.fil.last.form
  obtain ⟨o1, o2, o3, o4⟩ := h.ok hz hi hx
  have hw0 : ∀ k, k < W.heap.size → (W.alloc O).drew.heap[k]? = W.heap[k]? := fun k hk => Below.heap_alloc W O k hk
  have hxm : x ∈ g.ls := by rw [h.ls]; exact List.mem_of_getElem? hx
  have hF := h.ft.fil.chg x hxm
  have hA := h.ft.fil.ap x hxm
  refine ⟨ao, cap, _, hlv, rfl, by rw [← hlv]; exact h.ft.fil.blk, ?_⟩
  exact do_any (W.alloc O).drew base x.c x.d x.ro ao cap g.last x.c.size (hF.keep fun k hk => hw0 k (hF.lt k hk).2) (by rw [← hlv]; exact h.ft.fil.last.keep fun k hk => hw0 k (h.ft.fil.last.low hk).2) o1 (Nat.le_refl _) (by omega) (fun k hk hr => hA k hr (by rw [← hlv] at hk; rw [mem_mut]; exact .inr (.inl hk))) (by have := h.ft.turn.size; simp; omega)
set_option maxHeartbeats 4000000 in
theorem keep_any (w : World) (base b : Nat) (f : Fs) (n : Nat) (z : List Int) (h : Fil w base b f) (hn : n ≤ f.ls.length) (hz : Rp f.last (f.ls.take n) z) (hls : f.ls.length ≤ 1000000000) (hbase : base ≤ w.heap.size) :
    Calls Try.prog 64 #[.pointer (some ⟨b, 0, none⟩), .int .i64 n] w fun e w' => e = .returned (.tuple #[]) ∧ ∃ g, Kst w w' base b f n g ∧ g.last = z := by
  obtain ⟨a0, k0, hlo⟩ := own_slice h.row
  have hbl := h.blk
  rw [hlo] at hbl
  have c1 : w.cell? ⟨b, 1, none⟩ = some (.slice a0 f.ls.length k0) := by simp [World.cell?, hbl]
  have hcap : f.ls.length ≤ k0 ∧ k0 ≤ maxLen ∧ (a0 = none → k0 = 0) := by
    rcases h.row.2 with ⟨e, h0⟩ | ⟨r, k, cur, e, _, _, h1, h2, _⟩
    · rw [hlo] at e; injection e with e1 e2 e3; exact ⟨by omega, by rw [e3]; decide, fun _ => e3⟩
    · rw [hlo] at e; injection e with e1 e2 e3; subst e3; exact ⟨by omega, h2, fun e => by rw [e] at e1; cases e1⟩
  obtain ⟨hc1, hc2, hc3⟩ := hcap
  unfold maxLen at hc2
  obtain ⟨L, hL⟩ : ∃ L, f.ls.length = L := ⟨_, rfl⟩
  rw [hL] at c1 hn hls hc1
  have n0 : (0 : Int) ≤ n := by omega
  have HS : Hid (Kst w w base b f 0 f) := Kst.start h hz
  have HZ : Hid (Rp f.last (f.ls.take n) z ∧ base ≤ w.heap.size ∧ f.ls.length = L ∧ f.lo = .slice a0 L k0) := ⟨hz, hbase, hL, by rw [← hL]; exact hlo⟩
  have hnk : (n : Int) ≤ k0 := by omega
  clear h hz hbase hL hlo hbl
  have hend : ∀ (W : World) (g : Fs), Kst w W base b f n g → g.last = z := fun W g hk => hk.rp.det HZ.out.1
  cases a0 with
  | none =>
    obtain rfl := hc3 rfl
    obtain rfl : L = 0 := by omega
    obtain rfl : n = 0 := by omega
    have HE : Hid (∃ g, Kst w w base b f 0 g ∧ g.last = z) := ⟨f, HS.out, hend _ _ HS.out⟩
    clear hend
    go_enter Try.func64, Try.ntmps64
    go_wp2_with fail
    go_loopw [13] (fun t W => t = .int .i64 0 ∧ W = w) (fun t _ => 0)
    case atStart => exact ⟨rfl, rfl⟩
    case round =>
      obtain ⟨rfl, hwr⟩ := hrel
      have hwr := hwr.symm
      subst hwr
      go_wp2_with fail
      go_end0
      exact ⟨rfl, HE.out⟩
  | some r =>
    go_enter Try.func64, Try.ntmps64
    go_wp2_with fail
    go_loopw [13] (fun t W => ∃ (i : Nat) (g : Fs), i ≤ n ∧ t = .int .i64 i ∧ Kst w W base b f i g) (fun t _ => n - (intOf t).toNat)
    case atStart => exact ⟨0, f, by omega, rfl, HS.out⟩
    case round =>
      obtain ⟨i, g, hi', rfl, hK⟩ := hrel
      have i0 : (0 : Int) ≤ i := by omega
      by_cases hin : i < n
      · have hii : (i : Int) < n := by omega
        obtain ⟨x, hx⟩ : ∃ x, f.ls[i]? = some x := ⟨f.ls[i]'(by have := HZ.out.2.2.1; omega), List.getElem?_eq_getElem _⟩
        obtain ⟨g0, k1, hlo1, d0, d1, d2⟩ := hK.cells i hx
        have hr0 : r = ⟨g0, 0, none⟩ := by
          have := HZ.out.2.2.2
          rw [hlo1] at this
          injection this with this
          injection this with this
          exact this.symm
        subst hr0
        clear hlo1
        have hcl := fun O => hK.call HZ.out.1 hin hx HZ.out.2.1 O
        have hst := fun (O : Obj) (w1 : World) (v : Value) hB hg hat => hK.step (O := O) (w1 := w1) (v := v) HZ.out.1 hin hx hB hg hat
        have hnb := ((nod3 b g.lv.ownBlock g.nv.ownBlock g.lo.ownBlock).1 hK.ft.fil.nod).1
        have hblk := hK.ft.fil.blk
        obtain ⟨xd, xc, xro⟩ := x
        have hFv := hK.ft.fil.chg ⟨xd, xc, xro⟩ (by rw [hK.ls]; exact List.mem_of_getElem? hx)
        cases xc with
        | wr at_ p =>
          obtain ⟨ab, pb, _, _, hd, _⟩ := hFv
          dsimp only at hd
          subst hd
          obtain ⟨O, hO⟩ : ∃ O, O = Obj.cells #[.func (.func 66) #[] #[.pointer (some ⟨ab, 0, none⟩), .pointer (some ⟨pb, 0, none⟩)], .int .i64 (Fc.size (.wr at_ p) : Nat), .bool true] 94 (0, 0) := ⟨_, rfl⟩
          obtain ⟨ao, cap, LL, hlv, hLL, hbk, hD⟩ := hcl O
          have hD := hD ab pb rfl
          have hb0 : (wr.alloc O).heap[b]? = some (.cells #[.slice ao LL cap, g.lo, g.nv] 75 (0, 0)) := (Below.heap_alloc wr O b (lt_of_block hbk)).trans hbk
          have c0 : (wr.alloc O).drew.cell? ⟨b, 0, none⟩ = some (.slice ao LL cap) := (by simp [World.cell?, hb0] : (wr.alloc O).cell? ⟨b, 0, none⟩ = some (.slice ao LL cap))
          obtain ⟨PL, hPL⟩ : ∃ PL, Fc.size (.wr at_ p) = PL := ⟨_, rfl⟩
          rw [hPL] at hO
          have hD2 : Calls Try.prog 66 #[.slice ao LL cap, .int .i64 PL, .pointer (some ⟨ab, 0, none⟩), .pointer (some ⟨pb, 0, none⟩)] (wr.alloc O).drew fun e w' => ∃ v', e = .returned v' ∧ Buf w' base v' (Fc.do (.wr at_ p) g.last (Fc.size (.wr at_ p))) ∧ (wr.alloc O).drew.grownBy w' (Value.slice ao LL cap).ownBlock ∧ (v'.ownBlock = (Value.slice ao LL cap).ownBlock ∨ ∀ k, v'.ownBlock = some k → (wr.alloc O).drew.heap.size ≤ k) := by
            rw [← hLL, ← hPL]; exact hD
          replace d1 : wr.cell? ⟨g0, i * 3 + 1, none⟩ = some (.int .i64 PL) := by rw [← hPL]; exact d1
          replace d2 : wr.cell? ⟨g0, i * 3 + 2, none⟩ = some (.bool true) := d2
          have e0 : (wr.alloc O).heap[wr.heap.size]? = some (.cells #[.func (.func 66) #[] #[.pointer (some ⟨ab, 0, none⟩), .pointer (some ⟨pb, 0, none⟩)], .int .i64 PL, .bool true] 94 (0, 0)) := (Go.heap_alloc_new wr O).trans (by rw [hO])
          have f0 : (wr.alloc O).drew.cell? ⟨wr.heap.size, 0, none⟩ = some (.func (.func 66) #[] #[.pointer (some ⟨ab, 0, none⟩), .pointer (some ⟨pb, 0, none⟩)]) := (by rw [cell_block e0]; rfl : (wr.alloc O).cell? ⟨wr.heap.size, 0, none⟩ = some (.func (.func 66) #[] #[.pointer (some ⟨ab, 0, none⟩), .pointer (some ⟨pb, 0, none⟩)]))
          have f1 : (wr.alloc O).drew.cell? ⟨wr.heap.size, 1, none⟩ = some (.int .i64 PL) := (by rw [cell_block e0]; rfl : (wr.alloc O).cell? ⟨wr.heap.size, 1, none⟩ = some (.int .i64 PL))
          have HD : Hid (Calls Try.prog 66 #[.slice ao LL cap, .int .i64 PL, .pointer (some ⟨ab, 0, none⟩), .pointer (some ⟨pb, 0, none⟩)] (wr.alloc O).drew fun e w1 => ∃ a1 n1 k1, e = .returned (.slice a1 n1 k1) ∧ w1.cell? ⟨b, 0, none⟩ = some (.slice ao LL cap) ∧ w1.frozen? ⟨b, 0, none⟩ = false ∧ ∃ g', Kst w (w1.setCell ⟨b, 0, none⟩ (.slice a1 n1 k1)) base b f (i + 1) g') := by
            refine Calls.mono hD2 ?_
            rintro e w1 ⟨v', rfl, hB, hg, hat⟩
            rw [← hlv] at hg hat
            obtain ⟨a1, k1, rfl, _⟩ := hB.form
            have hb1 : w1.heap[b]? = some (.cells #[.slice ao LL cap, g.lo, g.nv] 75 (0, 0)) := (hg.block b (lt_of_block hb0) (fun e => hnb e.symm)).trans hb0
            exact ⟨a1, _, k1, rfl, by simp [World.cell?, hb1], by simp [World.frozen?, hb1], hst O w1 _ hB hg hat⟩
          clear hD hD2 hst hcl hblk hbk hb0 e0 hK hx hend hPL hLL hlv hnb
          subst hO
          have st := st_func
          go_wp2_with fail
          clear st
          go_region_with (first | (go_at_call 66; refine HD.out.mono ?_; rintro e w1 ⟨a1, n1, k1, rfl, x0, x1, hm⟩; have HM : Hid (∃ g', Kst w (w1.setCell ⟨b, 0, none⟩ (.slice a1 n1 k1)) base b f (i + 1) g') := hm; clear hm))
          all_goals
            go_wp2_with fail
            case roundEnd => obtain ⟨g', hm⟩ := HM.out; exact ⟨⟨i + 1, g', by omega, rfl, hm⟩, by simp [intOf]; omega⟩
        | ct kk =>
          obtain ⟨ab, hd, _⟩ := hFv
          dsimp only at hd
          subst hd
          obtain ⟨O, hO⟩ : ∃ O, O = Obj.cells #[.func (.func 67) #[] #[.pointer (some ⟨ab, 0, none⟩)], .int .i64 (Fc.size (.ct kk) : Nat), .bool false] 94 (0, 0) := ⟨_, rfl⟩
          obtain ⟨ao, cap, LL, hlv, hLL, hbk, hD⟩ := hcl O
          have hD := hD ab rfl
          have hb0 : (wr.alloc O).heap[b]? = some (.cells #[.slice ao LL cap, g.lo, g.nv] 75 (0, 0)) := (Below.heap_alloc wr O b (lt_of_block hbk)).trans hbk
          have c0 : (wr.alloc O).drew.cell? ⟨b, 0, none⟩ = some (.slice ao LL cap) := (by simp [World.cell?, hb0] : (wr.alloc O).cell? ⟨b, 0, none⟩ = some (.slice ao LL cap))
          obtain ⟨PL, hPL⟩ : ∃ PL, Fc.size (.ct kk) = PL := ⟨_, rfl⟩
          rw [hPL] at hO
          have hD2 : Calls Try.prog 67 #[.slice ao LL cap, .int .i64 PL, .pointer (some ⟨ab, 0, none⟩)] (wr.alloc O).drew fun e w' => ∃ v', e = .returned v' ∧ Buf w' base v' (Fc.do (.ct kk) g.last (Fc.size (.ct kk))) ∧ (wr.alloc O).drew.grownBy w' (Value.slice ao LL cap).ownBlock ∧ (v'.ownBlock = (Value.slice ao LL cap).ownBlock ∨ ∀ k, v'.ownBlock = some k → (wr.alloc O).drew.heap.size ≤ k) := by
            rw [← hLL, ← hPL]; exact hD
          replace d1 : wr.cell? ⟨g0, i * 3 + 1, none⟩ = some (.int .i64 PL) := by rw [← hPL]; exact d1
          replace d2 : wr.cell? ⟨g0, i * 3 + 2, none⟩ = some (.bool false) := d2
          have e0 : (wr.alloc O).heap[wr.heap.size]? = some (.cells #[.func (.func 67) #[] #[.pointer (some ⟨ab, 0, none⟩)], .int .i64 PL, .bool false] 94 (0, 0)) := (Go.heap_alloc_new wr O).trans (by rw [hO])
          have f0 : (wr.alloc O).drew.cell? ⟨wr.heap.size, 0, none⟩ = some (.func (.func 67) #[] #[.pointer (some ⟨ab, 0, none⟩)]) := (by rw [cell_block e0]; rfl : (wr.alloc O).cell? ⟨wr.heap.size, 0, none⟩ = some (.func (.func 67) #[] #[.pointer (some ⟨ab, 0, none⟩)]))
          have f1 : (wr.alloc O).drew.cell? ⟨wr.heap.size, 1, none⟩ = some (.int .i64 PL) := (by rw [cell_block e0]; rfl : (wr.alloc O).cell? ⟨wr.heap.size, 1, none⟩ = some (.int .i64 PL))
          have HD : Hid (Calls Try.prog 67 #[.slice ao LL cap, .int .i64 PL, .pointer (some ⟨ab, 0, none⟩)] (wr.alloc O).drew fun e w1 => ∃ a1 n1 k1, e = .returned (.slice a1 n1 k1) ∧ w1.cell? ⟨b, 0, none⟩ = some (.slice ao LL cap) ∧ w1.frozen? ⟨b, 0, none⟩ = false ∧ ∃ g', Kst w (w1.setCell ⟨b, 0, none⟩ (.slice a1 n1 k1)) base b f (i + 1) g') := by
            refine Calls.mono hD2 ?_
            rintro e w1 ⟨v', rfl, hB, hg, hat⟩
            rw [← hlv] at hg hat
            obtain ⟨a1, k1, rfl, _⟩ := hB.form
            have hb1 : w1.heap[b]? = some (.cells #[.slice ao LL cap, g.lo, g.nv] 75 (0, 0)) := (hg.block b (lt_of_block hb0) (fun e => hnb e.symm)).trans hb0
            exact ⟨a1, _, k1, rfl, by simp [World.cell?, hb1], by simp [World.frozen?, hb1], hst O w1 _ hB hg hat⟩
          clear hD hD2 hst hcl hblk hbk hb0 e0 hK hx hend hPL hLL hlv hnb
          subst hO
          have st := st_func
          go_wp2_with fail
          clear st
          go_region_with (first | (go_at_call 67; refine HD.out.mono ?_; rintro e w1 ⟨a1, n1, k1, rfl, x0, x1, hm⟩; have HM : Hid (∃ g', Kst w (w1.setCell ⟨b, 0, none⟩ (.slice a1 n1 k1)) base b f (i + 1) g') := hm; clear hm))
          all_goals
            go_wp2_with fail
            case roundEnd => obtain ⟨g', hm⟩ := HM.out; exact ⟨⟨i + 1, g', by omega, rfl, hm⟩, by simp [intOf]; omega⟩
      · have hii : ¬ (i : Int) < n := by omega
        obtain rfl : i = n := by omega
        have HE : Hid (∃ g, Kst w wr base b f i g ∧ g.last = z) := ⟨g, hK, hend _ _ hK⟩
        clear hend hK
        go_wp2_with fail
        go_end0
        exact ⟨rfl, HE.out⟩
end Go.Proofs.Ytkmohpdcchpndaa
