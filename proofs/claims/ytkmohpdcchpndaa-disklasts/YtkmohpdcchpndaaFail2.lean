/-
  The power fails: the walk.
-/
import Derived.Test.YtkmohpdcchpndaaFail
import Derived.Deep.DeepCutAuto
namespace Go.Proofs.Ytkmohpdcchpndaa
open Go.RowKit
set_option linter.unusedVariables false
set_option linter.unusedSimpArgs false
set_option maxRecDepth 100000
/-- the torn change: chosen, and done -/
theorem torn_calls {w w2 : World} {base b nb cb : Nat} {f g : Fs} {i k i1 : Nat} {cs : List Int} {gl : List Nat} {at_ : Nat} {p : List Int} {ab pb : Nat} {xro : List Nat} (h : Kept w w2 base b nb cb f i cs gl k i1 g)
    (hx : f.ls[k]? = some ⟨.func (.func 66) #[] #[.pointer (some ⟨ab, 0, none⟩), .pointer (some ⟨pb, 0, none⟩)], .wr at_ p, xro⟩) (hr : Rp f.last f.ls f.now) (hi : i ≤ 17592186044000) (hbase : base ≤ w.heap.size) (O : Obj) :
    ∃ ao cap L, w2.heap[b]? = some (.cells #[.slice ao L cap, g.lo, g.nv] 75 (0, 0)) ∧ Calls Try.prog 62 #[.int .i64 (p.length : Nat), .pointer (some ⟨nb, 0, none⟩), .pointer (some ⟨cb, 0, none⟩)] (w2.alloc O).drew fun e w3 => ∃ m : Nat, e = .returned (.int .i64 m) ∧ Turn (w2.alloc O).drew w3 [nb] ∧
      Calls Try.prog 66 #[.slice ao L cap, .int .i64 m, .pointer (some ⟨ab, 0, none⟩), .pointer (some ⟨pb, 0, none⟩)] w3 fun e w4 => ∃ a1 n1 k1, e = .returned (.slice a1 n1 k1) ∧ w4.cell? ⟨b, 0, none⟩ = some (.slice ao L cap) ∧ w4.frozen? ⟨b, 0, none⟩ = false ∧ ∃ g' i', Ov w (w4.setCell ⟨b, 0, none⟩ (.slice a1 n1 k1)) base b nb cb f g' i' cs gl ∧ Lasts f cs i g'.last i' := by
  obtain ⟨ao, cap, hlv, _⟩ := h.ov.st.fil.last.form
  have hbk := h.ov.st.fil.blk
  rw [hlv] at hbk
  refine ⟨ao, cap, _, hbk, ?_⟩
  have hb0 : Below w2.heap.size w2 (w2.alloc O).drew := ((Below.refl _ _).alloc (Nat.le_refl _) _).drew
  have ov1 := h.ov.below hb0
  have hxl := (List.getElem?_eq_some_iff.1 hx).1
  obtain ⟨y, h1, h2⟩ := hr.at k h.le
  have ey := h1.det h.rp
  subst ey
  rw [List.drop_eq_getElem_cons hxl] at h2
  have hxe := (List.getElem?_eq_some_iff.1 hx).2
  rw [hxe] at h2
  obtain ⟨o1, o2, o3⟩ := h2.1
  have hi1 := h.i1
  have hnx := nxt_le cs i
  have o3' : p.length ≤ 1099511627776 := o3
  refine (choose_any _ base nb cb i1 cs gl p.length ov1.st.ch o3' (by omega)).mono ?_
  rintro e w3 ⟨rfl, ⟨i', hi', hi2, hc⟩, ht⟩
  have hrg := chosen_range cs i1 p.length
  obtain ⟨m, hm⟩ : ∃ m : Nat, (m : Int) = chosen cs i1 p.length := ⟨(chosen cs i1 p.length).toNat, by omega⟩
  have ov2 := ov1.chose hc ht
  have hxm : (⟨.func (.func 66) #[] #[.pointer (some ⟨ab, 0, none⟩), .pointer (some ⟨pb, 0, none⟩)], .wr at_ p, xro⟩ : Lc) ∈ g.ls := by rw [h.ls]; exact List.mem_of_getElem? hx
  have hF := ov2.st.fil.chg _ hxm
  have hA := ov2.st.fil.ap _ hxm
  have hz3 : base ≤ w3.heap.size := Nat.le_trans hbase ov2.turn.size
  have hD := do_any w3 base (.wr at_ p) _ xro ao cap g.last m hF (by have := ov2.st.fil.last; rw [hlv] at this; exact this) o1 (by show m ≤ p.length; omega) (by show g.last.length + p.length ≤ _; omega) (fun j hj hr => hA j hr (by rw [← hlv] at hj; rw [mem_mut]; exact .inr (.inl hj))) hz3 ab pb rfl
  refine ⟨m, by rw [hm], ht, hD.mono ?_⟩
  rintro e w4 ⟨v', rfl, hB, hg, hat⟩
  rw [← hlv] at hg hat
  have ft := last_turn ov2.st.fil hB hg hat
  obtain ⟨a1, k1, rfl, _⟩ := hB.form
  have hnb := ((nod3 b g.lv.ownBlock g.nv.ownBlock g.lo.ownBlock).1 ov2.st.fil.nod).1
  have hb3 := ov2.st.fil.blk
  rw [hlv] at hb3
  have hb4 : w4.heap[b]? = some (.cells #[.slice ao g.last.length cap, g.lo, g.nv] 75 (0, 0)) := (hg.block b (lt_of_block hb3) (fun e => hnb e.symm)).trans hb3
  exact ⟨a1, _, k1, rfl, by simp [World.cell?, hb4], by simp [World.frozen?, hb4], _, i', ov2.turned ft (fun _ h => h), k, i1, g.last, h.ck, h.le, h.i1, h.rp, .inl ⟨_, m, hx, rfl, hm, by show m ≤ p.length; omega, rfl, hi2⟩⟩
/-- the last statement -/
theorem fin_call {w W : World} {base b nb cb : Nat} {f g : Fs} {i : Nat} {cs : List Int} {gl : List Nat} (h : Ov w W base b nb cb f g i cs gl) (hs : g.last.length ≤ 140737488355328) (hbase : base ≤ w.heap.size) :
    ∃ ao n cap, W.cell? ⟨b, 0, none⟩ = some (.slice ao n cap) ∧ Calls Try.prog 37 #[.slice ao n cap] W fun e w1 => ∃ a1 n1 k1, e = .returned (.slice a1 n1 k1) ∧ w1.cell? ⟨b, 1, none⟩ = some g.lo ∧ w1.frozen? ⟨b, 1, none⟩ = false ∧ w1.cell? ⟨b, 2, none⟩ = some g.nv ∧ w1.frozen? ⟨b, 2, none⟩ = false ∧ ∃ g', Ov w ((w1.setCell ⟨b, 1, none⟩ (.slice none 0 0)).setCell ⟨b, 2, none⟩ (.slice a1 n1 k1)) base b nb cb f g' i cs gl ∧ g'.last = g.last ∧ g'.now = g.last ∧ g'.ls = [] := by
  obtain ⟨ao, cap, hlv, hbare, hh, _⟩ := h.st.fil.last.form
  have hbk := h.st.fil.blk
  rw [hlv] at hbk
  refine ⟨ao, _, cap, by simp [World.cell?, hbk], (clone_any W ao g.last.length cap g.last rfl hbare hh h.st.fil.last.1 hs).mono ?_⟩
  rintro e w1 ⟨v, rfl, hB, hb⟩
  obtain ⟨a1, k1, rfl, _⟩ := hB.form
  obtain ⟨hb1, hg⟩ := h.fin hB hb (Nat.le_trans hbase h.turn.size)
  exact ⟨a1, _, k1, rfl, by simp [World.cell?, hb1], by simp [World.frozen?, hb1], by simp [World.cell?, hb1], by simp [World.frozen?, hb1], hg⟩
theorem shape_now {w : World} {base b : Nat} {f : Fs} (h : Fil w base b f) : (∃ a n k, f.lo = .slice a n k) ∧ ∃ a n k, f.nv = .slice a n k := by
  obtain ⟨a, k, e⟩ := own_slice h.row
  obtain ⟨a', k', e', _⟩ := h.now.form
  exact ⟨⟨a, _, k, e⟩, ⟨a', _, k', e'⟩⟩
theorem tears_wr {c : Fc} (h : c.tears = true) : ∃ at_ p, c = .wr at_ p := by
  cases c with
  | wr at_ p => exact ⟨at_, p, rfl⟩
  | ct k => cases h
set_option maxHeartbeats 4000000 in
theorem fail_any (w : World) (base b nb cb : Nat) (f : Fs) (i : Nat) (cs : List Int) (gl : List Nat) (h : Fc2 w base b nb cb f i cs gl) (hr : Rp f.last f.ls f.now) (hls : f.ls.length ≤ 1000000000) (hi : i ≤ 17592186044000) (hbase : base ≤ w.heap.size) :
    Calls Try.prog 41 #[.pointer (some ⟨b, 0, none⟩), .func (.func 62) #[] #[.pointer (some ⟨nb, 0, none⟩), .pointer (some ⟨cb, 0, none⟩)], .func (.func 37) #[] #[]] w fun e w' => e = .returned (.tuple #[]) ∧ ∃ g i', Ov w w' base b nb cb f g i' cs gl ∧ Lasts f cs i g.last i' ∧ g.now = g.last ∧ g.ls = [] := by
  obtain ⟨a0, k0, hlo⟩ := own_slice h.fil.row
  have hbl := h.fil.blk
  rw [hlo] at hbl
  have HC := keep_calls w base b nb cb f i cs gl h hr hls hi hbase
  obtain ⟨L, hL⟩ : ∃ L, f.ls.length = L := ⟨_, rfl⟩
  rw [hL] at hbl HC hls
  have c1 : w.cell? ⟨b, 1, none⟩ = some (.slice a0 L k0) := by simp [World.cell?, hbl]
  have HK : Hid (∀ w2 k i1 g, Kept w w2 base b nb cb f i cs gl k i1 g → w2.cell? ⟨b, 1, none⟩ = some (.slice a0 L k0)) := fun w2 k i1 g hk => by
    have := hk.ov.st.fil.blk
    rw [hk.lo, hlo, hL] at this
    simp [World.cell?, this]
  have HCC : Hid (Calls Try.prog 62 #[.int .i64 (L : Nat), .pointer (some ⟨nb, 0, none⟩), .pointer (some ⟨cb, 0, none⟩)] w fun e w1 => ∃ k : Nat, e = .returned (.int .i64 k) ∧ k ≤ L ∧ Calls Try.prog 64 #[.pointer (some ⟨b, 0, none⟩), .int .i64 k] w1 fun e w2 => e = .returned (.tuple #[]) ∧ ∃ i1 g, Kept w w2 base b nb cb f i cs gl k i1 g) := HC
  have HX : Hid (f.ls.length = L ∧ f.lo = .slice a0 L k0 ∧ Rp f.last f.ls f.now ∧ base ≤ w.heap.size) := ⟨hL, by rw [← hL]; exact hlo, hr, hbase⟩
  clear HC h hr hbl hlo hL hbase
  go_enter Try.func41, Try.ntmps41
  go_upto_region 2 with (first | (go_at_call 62; refine HCC.out.mono ?_; rintro e w1 ⟨k, rfl, hk, hc⟩; have HC2 : Hid (Calls Try.prog 64 #[.pointer (some ⟨b, 0, none⟩), .int .i64 k] w1 fun e w2 => e = .returned (.tuple #[]) ∧ ∃ i1 g, Kept w w2 base b nb cb f i cs gl k i1 g) := hc; clear hc) | (go_at_call 64; refine HC2.out.mono ?_; rintro e w2 ⟨rfl, i1, g, hK⟩; have HKp : Hid (Kept w w2 base b nb cb f i cs gl k i1 g) := hK; have c2 := HK.out w2 k i1 g hK; clear hK))
  have HSz : Hid (g.last.length ≤ 140737488355328) := by
    obtain ⟨y, h1, h2⟩ := HX.out.2.2.1.at k HKp.out.le
    have e := h1.det HKp.out.rp
    subst e
    have := h2.small
    show g.last.length ≤ _
    omega
  have k0' : (0 : Int) ≤ k := by omega
  by_cases hkL : k < L
  · have hkl : (k : Int) < L := by omega
    obtain ⟨x, hx⟩ : ∃ x, f.ls[k]? = some x := ⟨f.ls[k]'(by have := HX.out.1; omega), List.getElem?_eq_getElem _⟩
    obtain ⟨r, kc, hlo1, d0, d1, d2⟩ := HKp.out.cells hx
    have hr0 : a0 = some ⟨r, 0, none⟩ := by
      have := HX.out.2.1
      rw [hlo1] at this
      injection this with this
      exact this.symm
    subst hr0
    clear hlo1
    by_cases htr : x.c.tears = true
    · obtain ⟨at_, p, hxc⟩ := tears_wr htr
      obtain ⟨xd, xc, xro⟩ := x
      dsimp only at hxc
      subst hxc
      obtain ⟨ab, pb, _, _, hd, _⟩ := HKp.out.ov.st.fil.chg _ (by rw [HKp.out.ls]; exact List.mem_of_getElem? hx)
      dsimp only at hd
      subst hd
      obtain ⟨O, hO⟩ : ∃ O, O = Obj.cells #[.func (.func 66) #[] #[.pointer (some ⟨ab, 0, none⟩), .pointer (some ⟨pb, 0, none⟩)], .int .i64 (p.length : Nat), .bool true] 94 (0, 0) := ⟨_, rfl⟩
      obtain ⟨ao, cap, LL, hbk, hT⟩ := torn_calls HKp.out hx HX.out.2.2.1 hi HX.out.2.2.2 O
      have hb0 : (w2.alloc O).drew.heap[b]? = some (.cells #[.slice ao LL cap, g.lo, g.nv] 75 (0, 0)) := (Below.heap_alloc w2 O b (lt_of_block hbk)).trans hbk
      have e0 : (w2.alloc O).drew.heap[w2.heap.size]? = some (.cells #[.func (.func 66) #[] #[.pointer (some ⟨ab, 0, none⟩), .pointer (some ⟨pb, 0, none⟩)], .int .i64 (p.length : Nat), .bool true] 94 (0, 0)) := (Go.heap_alloc_new w2 O).trans (by rw [hO])
      have hnb := HKp.out.ov.st.ap nb (.inl rfl)
      have hbn : b ≠ nb := fun e => hnb.1 (by rw [mem_mut]; exact .inl e.symm)
      obtain ⟨PL, hPL⟩ : ∃ PL, p.length = PL := ⟨_, rfl⟩
      rw [hPL] at hO hT e0
      replace d1 : w2.cell? ⟨r, k * 3 + 1, none⟩ = some (.int .i64 PL) := by rw [← hPL]; exact d1
      replace d2 : w2.cell? ⟨r, k * 3 + 2, none⟩ = some (.bool true) := d2
      have f0 : (w2.alloc O).drew.cell? ⟨w2.heap.size, 0, none⟩ = some (.func (.func 66) #[] #[.pointer (some ⟨ab, 0, none⟩), .pointer (some ⟨pb, 0, none⟩)]) := by rw [cell_block e0]; rfl
      have f1 : (w2.alloc O).drew.cell? ⟨w2.heap.size, 1, none⟩ = some (.int .i64 PL) := by rw [cell_block e0]; rfl
      have f2 : (w2.alloc O).drew.cell? ⟨b, 0, none⟩ = some (.slice ao LL cap) := by rw [cell_block hb0]; rfl
      have HT : Hid (Calls Try.prog 62 #[.int .i64 (PL : Nat), .pointer (some ⟨nb, 0, none⟩), .pointer (some ⟨cb, 0, none⟩)] (w2.alloc O).drew fun e w3 => ∃ m : Nat, e = .returned (.int .i64 m) ∧ (w3.cell? ⟨w2.heap.size, 0, none⟩ = some (.func (.func 66) #[] #[.pointer (some ⟨ab, 0, none⟩), .pointer (some ⟨pb, 0, none⟩)]) ∧ w3.cell? ⟨b, 0, none⟩ = some (.slice ao LL cap)) ∧
          Calls Try.prog 66 #[.slice ao LL cap, .int .i64 m, .pointer (some ⟨ab, 0, none⟩), .pointer (some ⟨pb, 0, none⟩)] w3 fun e w4 => ∃ a1 n1 k1, e = .returned (.slice a1 n1 k1) ∧ w4.cell? ⟨b, 0, none⟩ = some (.slice ao LL cap) ∧ w4.frozen? ⟨b, 0, none⟩ = false ∧ ∃ g' i', Ov w (w4.setCell ⟨b, 0, none⟩ (.slice a1 n1 k1)) base b nb cb f g' i' cs gl ∧ Lasts f cs i g'.last i') := hT.mono fun e w3 ⟨m, he, ht, hc⟩ => by
        have q0 := (ht.block _ (lt_of_block e0) (by simp; have := hnb.2; omega)).trans e0
        have q1 := (ht.block _ (lt_of_block hb0) (by simpa using hbn)).trans hb0
        exact ⟨m, he, ⟨by rw [cell_block q0]; rfl, by rw [cell_block q1]; rfl⟩, hc⟩
      have HLz : Hid (∀ z i', Lasts f cs i z i' → z.length ≤ 140737488355328) := by
        intro z i' hz
        obtain ⟨kk, ii, y, _, hkk, _, hy, hcase⟩ := hz
        obtain ⟨y', g1, g2⟩ := HX.out.2.2.1.at kk hkk
        have e := g1.det hy
        subst e
        have hy1 := g2.small
        rcases hcase with ⟨x, m, hxx, _, _, hm, rfl, _⟩ | ⟨_, rfl, _⟩
        · have hxl := (List.getElem?_eq_some_iff.1 hxx).1
          rw [List.drop_eq_getElem_cons hxl, (List.getElem?_eq_some_iff.1 hxx).2] at g2
          obtain ⟨⟨o1, o2, o3⟩, _⟩ := g2
          cases hxc : x.c with
          | wr at' p' =>
            rw [hxc] at o1 o3 hm
            have o1' : at' ≤ y'.length := o1
            have o3' : p'.length ≤ 1099511627776 := o3
            show (over y' at' (p'.take m)).length ≤ _
            rw [over_length _ _ _ o1']
            simp
            omega
          | ct n' =>
            show (y'.take n').length ≤ _
            simp
            omega
        · omega
      clear hT hb0 e0 hbk hx hnb hbn hPL
      subst hO
      have st := st_func
      go_upto_region 4 with fail
      clear st d0 d1 d2
      go_cut [] (fun wx => ∃ g' i', Hid (Ov w wx base b nb cb f g' i' cs gl) ∧ Hid (Lasts f cs i g'.last i'))
      case first =>
        go_region_with (first | (go_at_call 62; refine HT.out.mono ?_; rintro e w3 ⟨m, rfl, ⟨q0, q1⟩, hc⟩; have HC3 : Hid (Calls Try.prog 66 #[.slice ao LL cap, .int .i64 m, .pointer (some ⟨ab, 0, none⟩), .pointer (some ⟨pb, 0, none⟩)] w3 fun e w4 => ∃ a1 n1 k1, e = .returned (.slice a1 n1 k1) ∧ w4.cell? ⟨b, 0, none⟩ = some (.slice ao LL cap) ∧ w4.frozen? ⟨b, 0, none⟩ = false ∧ ∃ g' i', Ov w (w4.setCell ⟨b, 0, none⟩ (.slice a1 n1 k1)) base b nb cb f g' i' cs gl ∧ Lasts f cs i g'.last i') := hc; clear hc) | (go_at_call 66; refine HC3.out.mono ?_; rintro e w4 ⟨a1, n1, k1, rfl, x0, x1, hm⟩; have HM : Hid (∃ g' i', Ov w (w4.setCell ⟨b, 0, none⟩ (.slice a1 n1 k1)) base b nb cb f g' i' cs gl ∧ Lasts f cs i g'.last i') := hm; clear hm))
        all_goals
          go_wp2_with fail
          go_meet
          case rel => obtain ⟨g', i', q1, q2⟩ := HM.out; exact ⟨g', i', q1, q2⟩
      case rest =>
        obtain ⟨g', i', HOv, HLa⟩ := hcut
        obtain ⟨⟨x1, x2, x3, hx1⟩, ⟨x4, x5, x6, hx2⟩⟩ := shape_now HOv.out.st.fil
        obtain ⟨ao5, n5, k5, l5, hf5⟩ := fin_call HOv.out (HLz.out _ _ HLa.out) HX.out.2.2.2
        rw [hx1, hx2] at hf5
        have HF5 : Hid (Calls Try.prog 37 #[.slice ao5 n5 k5] wc fun e w1 => ∃ a1 n1 k1, e = .returned (.slice a1 n1 k1) ∧ w1.cell? ⟨b, 1, none⟩ = some (.slice x1 x2 x3) ∧ w1.frozen? ⟨b, 1, none⟩ = false ∧ w1.cell? ⟨b, 2, none⟩ = some (.slice x4 x5 x6) ∧ w1.frozen? ⟨b, 2, none⟩ = false ∧ ∃ g2, Ov w ((w1.setCell ⟨b, 1, none⟩ (.slice none 0 0)).setCell ⟨b, 2, none⟩ (.slice a1 n1 k1)) base b nb cb f g2 i' cs gl ∧ g2.last = g'.last ∧ g2.now = g'.last ∧ g2.ls = []) := hf5
        clear hf5 hx1 hx2
        go_wp2_with (first | (go_at_call 37; refine HF5.out.mono ?_; rintro e w6 ⟨a6, n6, k6, rfl, y0, y1, y2, y3, hg6⟩; have HG6 : Hid (∃ g2, Ov w ((w6.setCell ⟨b, 1, none⟩ (.slice none 0 0)).setCell ⟨b, 2, none⟩ (.slice a6 n6 k6)) base b nb cb f g2 i' cs gl ∧ g2.last = g'.last ∧ g2.now = g'.last ∧ g2.ls = []) := hg6; clear hg6))
        go_end0
        obtain ⟨g2, h1, h2, h3, h4⟩ := HG6.out
        exact ⟨rfl, g2, i', h1, by rw [h2]; exact HLa.out, by rw [h3, h2], h4⟩
    · have hnt : x.c.tears = false := by simpa using htr
      rw [hnt] at d2
      have HLa : Hid (Lasts f cs i g.last i1) := HKp.out.whole fun y hy => by rw [hx] at hy; cases hy; exact hnt
      clear d0 d1 hnt htr hx
      obtain ⟨⟨x1, x2, x3, hx1⟩, ⟨x4, x5, x6, hx2⟩⟩ := shape_now HKp.out.ov.st.fil
      obtain ⟨ao5, n5, k5, l5, hf5⟩ := fin_call HKp.out.ov HSz.out HX.out.2.2.2
      rw [hx1, hx2] at hf5
      have HF5 : Hid (Calls Try.prog 37 #[.slice ao5 n5 k5] w2 fun e w1 => ∃ a1 n1 k1, e = .returned (.slice a1 n1 k1) ∧ w1.cell? ⟨b, 1, none⟩ = some (.slice x1 x2 x3) ∧ w1.frozen? ⟨b, 1, none⟩ = false ∧ w1.cell? ⟨b, 2, none⟩ = some (.slice x4 x5 x6) ∧ w1.frozen? ⟨b, 2, none⟩ = false ∧ ∃ g', Ov w ((w1.setCell ⟨b, 1, none⟩ (.slice none 0 0)).setCell ⟨b, 2, none⟩ (.slice a1 n1 k1)) base b nb cb f g' i1 cs gl ∧ g'.last = g.last ∧ g'.now = g.last ∧ g'.ls = []) := hf5
      clear hf5 hx1 hx2
      go_wp2_with (first | (go_at_call 37; refine HF5.out.mono ?_; rintro e w6 ⟨a6, n6, k6, rfl, y0, y1, y2, y3, hg6⟩; have HG6 : Hid (∃ g', Ov w ((w6.setCell ⟨b, 1, none⟩ (.slice none 0 0)).setCell ⟨b, 2, none⟩ (.slice a6 n6 k6)) base b nb cb f g' i1 cs gl ∧ g'.last = g.last ∧ g'.now = g.last ∧ g'.ls = []) := hg6; clear hg6))
      go_end0
      obtain ⟨g', h1, h2, h3, h4⟩ := HG6.out
      exact ⟨rfl, g', i1, h1, by rw [h2]; exact HLa.out, by rw [h3, h2], h4⟩
  · have hkl : ¬ (k : Int) < L := by omega
    have HLa : Hid (Lasts f cs i g.last i1) := HKp.out.whole fun y hy => by
      have := (List.getElem?_eq_some_iff.1 hy).1
      have := HX.out.1
      omega
    obtain ⟨⟨x1, x2, x3, hx1⟩, ⟨x4, x5, x6, hx2⟩⟩ := shape_now HKp.out.ov.st.fil
    obtain ⟨ao5, n5, k5, l5, hf5⟩ := fin_call HKp.out.ov HSz.out HX.out.2.2.2
    rw [hx1, hx2] at hf5
    have HF5 : Hid (Calls Try.prog 37 #[.slice ao5 n5 k5] w2 fun e w1 => ∃ a1 n1 k1, e = .returned (.slice a1 n1 k1) ∧ w1.cell? ⟨b, 1, none⟩ = some (.slice x1 x2 x3) ∧ w1.frozen? ⟨b, 1, none⟩ = false ∧ w1.cell? ⟨b, 2, none⟩ = some (.slice x4 x5 x6) ∧ w1.frozen? ⟨b, 2, none⟩ = false ∧ ∃ g', Ov w ((w1.setCell ⟨b, 1, none⟩ (.slice none 0 0)).setCell ⟨b, 2, none⟩ (.slice a1 n1 k1)) base b nb cb f g' i1 cs gl ∧ g'.last = g.last ∧ g'.now = g.last ∧ g'.ls = []) := hf5
    clear hf5 hx1 hx2
    go_wp2_with (first | (go_at_call 37; refine HF5.out.mono ?_; rintro e w6 ⟨a6, n6, k6, rfl, y0, y1, y2, y3, hg6⟩; have HG6 : Hid (∃ g', Ov w ((w6.setCell ⟨b, 1, none⟩ (.slice none 0 0)).setCell ⟨b, 2, none⟩ (.slice a6 n6 k6)) base b nb cb f g' i1 cs gl ∧ g'.last = g.last ∧ g'.now = g.last ∧ g'.ls = []) := hg6; clear hg6))
    go_end0
    obtain ⟨g', h1, h2, h3, h4⟩ := HG6.out
    exact ⟨rfl, g', i1, h1, by rw [h2]; exact HLa.out, by rw [h3, h2], h4⟩
end Go.Proofs.Ytkmohpdcchpndaa
