/-
  The walk of SumOwn.
-/
import Derived.Test.YtapejmmefhbadaaDoorMade
import Derived.Deep.Cut
import Derived.Deep.DeepCutAuto
namespace Go.Proofs.YtapejmmefhbadaaDoor
open Go.RowKit
set_option linter.unusedVariables false

/-- A list that was handed in. -/
structure Inp (w : World) (a : Option Addr) (n : Nat) (ss : List Sl) : Prop where
  len : ss.length = n
  ll : LL w a ss
  small : ∀ s ∈ ss, s.n ≤ 140737488351232
  sum : (ss.map fun s => 8 + s.n).sum ≤ 1099511627776
theorem flat_small {w : World} {a : Option Addr} {n : Nat} {ss : List Sl} (h : Inp w a n ss) : (flat (kept ss)).length ≤ 1099511627776 := by
  rw [flat_length (kept ss) (fun s hs => (h.ll.1 s (List.mem_filter.1 hs).1).len)]
  have := kept_sum ss ss.length
  rw [List.take_length] at this
  have := h.sum
  omega
/-- The bytes written are marks. -/
def Marks (j : Nat) (s : Sl) (m : Nat) : Prop := ∀ k, k < m → s.zs.getD k 0 = 3 * (j : Int)
def Filled (i : Nat) (ss : List Sl) : Prop := ∀ (j : Nat) (s : Sl), j < i → ss[j]? = some s → Marks j s s.n
def Sizes (ss : List Sl) : Prop := ∀ s ∈ ss, s.n ≤ 131080

theorem push_out {W w1 : World} {m X : Nat} {out v v' : Value} {l : List Value} {o : Obj} (hO : W.ownsRow m 24 1 out X l) (hne : ∀ b, v.ownBlock = some b → out.ownBlock ≠ some b) (hg : (W.alloc o).grownBy w1 v.ownBlock) (hat : v'.ownBlock = v.ownBlock ∨ v'.ownBlock = some (W.alloc o).heap.size) :
    Hid (w1.ownsRow m 24 1 out X l) ∧ Hid (∀ b, v'.ownBlock = some b → out.ownBlock ≠ some b) := by
  refine ⟨own_block hO (fun k hk => ?_), fun b hb e => ?_⟩
  · have hl := (hO.lt k hk).2
    exact (hg.block k (by simp; omega) (fun e => hne k e.symm hk)).trans (Go.heap_alloc_old W _ k hl)
  · rcases hat with h | h
    · exact hne b (h.symm.trans hb) e
    · rw [h] at hb
      cases hb
      have := (hO.lt _ e).2
      simp at this
      omega

theorem own_olds {W : World} {base n c : Nat} {a : Option Addr} {zs : List Int} (h : W.ownsRow base 5 1 (.slice a n c) n (vals zs)) {b : Addr} (hb : a = some b) (j : Nat) (u : Value) (hu : (vals zs)[j]? = some u) : W.cell? (b.add j) = some u := by
  obtain ⟨hj, rfl⟩ := vals_at zs j u hu
  rcases own_has' h with ⟨h1, _⟩ | ⟨x, hx, hc⟩
  · rw [h1] at hb; cases hb
  · rw [hx] at hb; cases hb; exact hc j hj
theorem own_cell {W : World} {base g M c : Nat} {ss : List Sl} (h : W.ownsRow base 24 1 (.slice (some ⟨g, 0, none⟩) M c) ss.length (ss.map Sl.val)) (hl : ss.length = M) (i : Nat) (s : Sl) (hs : ss[i]? = some s) : W.cell? ⟨g, i, none⟩ = some s.val := by
  rw [hl] at h
  have hi := (List.getElem?_eq_some_iff.1 hs).1
  rw [h.cellAt i (by omega), List.getElem?_map, hs]; rfl
theorem al_cell {W : World} {base g M c : Nat} {wA : World} {ss ps : List Sl} (h : AL W base (.slice (some ⟨g, 0, none⟩) M c) wA ss ps) (hl : ss.length = M) (i : Nat) (s : Sl) (hs : ss[i]? = some s) : W.cell? ⟨g, i, none⟩ = some s.val := own_cell h.own hl i s hs

set_option maxRecDepth 100000 in
set_option maxHeartbeats 4000000 in
theorem ownS_any (a0 : Option Addr) (n0 c0 : Nat) (ss0 : List Sl) (a1 : Option Addr) (n1 c1 : Nat) (ss1 : List Sl) (w : World) (h0 : Inp w a0 n0 ss0) (h1 : Inp w a1 n1 ss1) (hT : Tab w) :
    Calls Tryd.prog 3 #[.slice a0 n0 c0, .slice a1 n1 c1] w fun e w' => e = .returned (.bool true) ∧ Below w.heap.size w w' := by
  obtain ⟨i5, hi5, hz50, hz51, hz52⟩ := info_parts Tryd.info5
  obtain ⟨i24, hi24, hz240, hz241, hz242⟩ := info_parts Tryd.info24
  have H0 : Hid (Inp w a0 n0 ss0) := h0
  have H1 : Hid (Inp w a1 n1 ss1) := h1
  have HT : Hid (Tab w) := hT
  have hpos := hT.pos
  clear h0 h1
  go_enter Tryd.func3, Tryd.ntmps3
  go_wp2_with fail
  refine (awake_any _ hT).mono ?_
  rintro e wA ⟨rfl, hbA⟩
  clear hT
  go_wp2_with fail
  go_loopw [5, 6] (fun v t W => ∃ (i : Nat) (ss : List Sl), i ≤ 3 ∧ t = .int .i64 i ∧ AL W wA.heap.size v wA ss [] ∧ ss.length ≤ 11 * i ∧ Sizes ss) (fun _ t _ => 3 - (intOf t).toNat)
  case atStart => exact ⟨0, [], by omega, rfl, ⟨World.ownsRow_nil _ _ _ _, (fun s hs => by cases hs), (fun i j s t b hi => by simp at hi), Below.refl _ _, Nat.le_refl _⟩, by simp, fun s hs => by cases hs⟩
  case round =>
    obtain ⟨i, ss, hi3, rfl, hA, hsl, hSz⟩ := hrel
    have hwr : Below w.heap.size w wr := hbA.trans (hA.low.mono hbA.size)
    by_cases hik : i < 3
    · have HA : Hid (AL wr wA.heap.size u5 wA ss []) := hA
      have HSz : Hid (Sizes ss) := hSz
      clear hA hSz
      have ik : (i : Int) < 3 := by omega
      go_upto_if 35 with fail
      go_cut [7] (fun v wc => ∃ (ax : Option Addr) (nx cx : Nat) (sx : List Sl), v = .slice ax nx cx ∧ Inp w ax nx sx ∧ wc = wr)
      case first =>
        by_cases hi1 : i = 1
        · subst hi1
          go_wp2
          go_meet
          case rel => exact ⟨a1, n1, c1, ss1, rfl, H1.out, rfl⟩
        · have hi2 : ((i : Int) == 1) = false := beq_eq_false_iff_ne.2 (by omega)
          go_wp2
          go_meet
          case rel => exact ⟨a0, n0, c0, ss0, rfl, H0.out, rfl⟩
      case rest =>
        obtain ⟨ax, nx, cx, sx, rfl, hX, hwc⟩ := hcut
        have hwc := hwc.symm
        subst hwc
        obtain ⟨L, hL⟩ : ∃ L, (flat (kept sx)).length = L := ⟨_, rfl⟩
        have hLl : L ≤ 1099511627776 := by rw [← hL]; exact flat_small hX
        have HLL : Hid ((flat (kept sx)).length = L) := hL
        have HOct : Hid (Octets (flat (kept sx))) := flat_oct _ (kept_fit hX.ll)
        have HX : Hid (Inp w ax nx sx) := hX
        clear hL hX
        go_wp2_with fail
        refine (framed_any ax nx cx sx _ HX.out.len (HX.out.ll.below hwr) HX.out.small (HT.out.below hwr hpos) HX.out.sum).mono ?_
        rintro e w1 ⟨v8, v9, v10, rfl, hG⟩
        have hGb := hG.b
        rw [HLL.out] at hGb
        obtain ⟨ab, cb, rfl⟩ := own_shape hGb
        obtain ⟨f1, f2, f3⟩ := own_fits hGb
        have hw1 : Below w.heap.size w w1 := hwr.trans (hG.below.mono hwr.size)
        have HA1 : Hid (AL w1 wA.heap.size u5 wA ss []) := HA.out.later hG.below
        have HB1 : Hid (Has w1 ab (flat (kept sx))) := own_has' hGb
        clear hG hGb HA
        go_wp2_with fail
        refine (next_sl ab L cb (flat (kept sx)) _ HLL.out HB1.out f1 f2 HOct.out (HT.out.below hw1 hpos)).mono ?_
        rintro e w2 ⟨o1, on, oc, oz, r1, r2, rfl, hR2, hon, hoo, hol, hb2⟩
        obtain ⟨g1, g2, g3⟩ := own_fits (show w2.ownsRow w1.heap.size 5 1 (.slice o1 on oc) on (vals oz) from hR2)
        have hw2 : Below w.heap.size w w2 := hw1.trans (hb2.mono hw1.size)
        have HR2 : Hid (RowOf w2 w1.heap.size ⟨o1, on, oc, oz⟩) := hR2
        have HA2 : Hid (AL w2 wA.heap.size u5 wA ss ([] ++ [⟨o1, on, oc, oz⟩])) := (HA1.out.later hb2).waits HA1.out.lt HA1.out.size (fun s hs => by obtain rfl := List.mem_singleton.1 hs; exact hR2) (fun i j s t b hi hj _ _ => by
          have h1 := (List.getElem?_eq_some_iff.1 hi).1
          have h2 := (List.getElem?_eq_some_iff.1 hj).1
          simp at h1 h2
          omega)
        have HB2 : Hid (Has w2 ab (flat (kept sx))) := HB1.out.of_below hb2
        have HO2 : Hid (Has w2 o1 oz) := own_has' (show w2.ownsRow w1.heap.size 5 1 (.slice o1 on oc) on (vals oz) from hR2)
        have Hoo : Hid (Octets oz) := hoo
        have Hol : Hid (oz.length = on) := hol
        clear hR2 HA1 HB1 hb2 hoo hol HR2
        go_wp2_with fail
        refine (frame_sl o1 on oc oz _ Hol.out HO2.out g3 Hoo.out (HT.out.below hw2 hpos) hon).mono ?_
        rintro e w3 ⟨gf, rfl, hR3, hb3⟩
        have hw3 : Below w.heap.size w w3 := hw2.trans (hb3.mono hw2.size)
        have HA3 : Hid (AL w3 wA.heap.size u5 wA ss (([] ++ [⟨o1, on, oc, oz⟩]) ++ [⟨some ⟨gf, 0, none⟩, 8 + on, 8 + on, frame oz⟩])) := (HA2.out.later hb3).waits HA2.out.lt HA2.out.size (fun s hs => by obtain rfl := List.mem_singleton.1 hs; exact hR3) (fun i j s t b hi hj _ _ => by
          have h1 := (List.getElem?_eq_some_iff.1 hi).1
          have h2 := (List.getElem?_eq_some_iff.1 hj).1
          simp at h1 h2
          omega)
        have HB3 : Hid (Has w3 ab (flat (kept sx))) := HB2.out.of_below hb3
        obtain ⟨fn, hfn⟩ : ∃ m, 8 + on = m := ⟨_, rfl⟩
        rw [hfn] at HA3 ⊢
        have hfl : fn ≤ 131080 := by omega
        clear hR3 HA2 HB2 HO2 hb3 hfn
        go_wp2_with fail
        refine (scan_sl ab L cb (flat (kept sx)) _ HLL.out HB3.out HOct.out (HT.out.below hw3 hpos) hLl).mono ?_
        rintro e w4 ⟨xs, a4, c4, r4, rfl, hO4, hR4, hap4, hxl, hb4⟩
        have hw4 : Below w.heap.size w w4 := hw3.trans (hb4.mono hw3.size)
        have HA4 : Hid (AL w4 wA.heap.size u5 wA ss (⟨o1, on, oc, oz⟩ :: ⟨some ⟨gf, 0, none⟩, fn, fn, frame oz⟩ :: xs)) := (HA3.out.later hb4).waits HA3.out.lt HA3.out.size (fun s hs => (hR4 s hs).1) hap4
        have HO4 : Hid (w4.ownsRow w3.heap.size 24 1 (.slice a4 xs.length c4) xs.length (xs.map Sl.val)) := hO4
        have HV5 : Hid (∀ b, u5.ownBlock = some b → b < w3.heap.size) := fun b hb => (HA3.out.own.lt b hb).2
        have Hxs : Hid (∀ s ∈ xs, s.n ≤ 131072) := fun s hs => (hR4 s hs).2
        obtain ⟨X, hX⟩ : ∃ X, xs.length = X := ⟨_, rfl⟩
        have HXl : Hid (xs.length = X) := hX
        rw [hX] at hxl HO4 ⊢
        clear hO4 hR4 hap4 hb4 HA3 HB3 hX
        have HNE4 : Hid (∀ b, u5.ownBlock = some b → (Value.slice a4 X c4).ownBlock ≠ some b) := fun b hb e => by
          have h1 := HV5.out b hb
          have h2 := (HO4.out.lt b e).1
          omega
        have hsl2 : ss.length ≤ 33 := by omega
        have Hsl : Hid (ss.length ≤ 11 * i) := hsl
        clear hsl HV5
        go_wp2_with (first
          | (at_builtin; refine wpList_append_own_at _ rfl (.tmp 59) (.tmp 61) 22 rfl wA.heap.size 24 i24 (.slice none 0 0) 1 24 Tryd.underlying22 hi24 hz240 hz241 hz242 rfl (by decide) u5 ss.length (ss.map Sl.val) rfl (HA4.out.own.alloc _) ⟨w4.heap.size, 0, none⟩ 1 1 [.slice o1 on oc] rfl rfl (cell_one_new _ _ _) (by intro u hu; simp at hu; subst hu; rfl) (by unfold maxLen; omega) (by omega) (Nat.le_trans HA4.out.size (by simp)) ?_; intro v6 w5 hown5 hgrow5 _ hat5; have HA5 : Hid (AL w5 wA.heap.size v6 wA (ss ++ [⟨o1, on, oc, oz⟩]) (⟨some ⟨gf, 0, none⟩, fn, fn, frame oz⟩ :: xs)) := HA4.out.push hown5 hgrow5; obtain ⟨HO5, HNE5⟩ := push_out HO4.out HNE4.out hgrow5 hat5; clear hown5 hgrow5 hat5)
          | (at_builtin; refine wpList_append_own_at _ rfl (.tmp 62) (.tmp 64) 22 rfl wA.heap.size 24 i24 (.slice none 0 0) 1 24 Tryd.underlying22 hi24 hz240 hz241 hz242 rfl (by decide) v6 (ss ++ [(⟨o1, on, oc, oz⟩ : Sl)]).length ((ss ++ [(⟨o1, on, oc, oz⟩ : Sl)]).map Sl.val) rfl (HA5.out.own.alloc _) ⟨w5.heap.size, 0, none⟩ 1 1 [.slice (some ⟨gf, 0, none⟩) fn fn] rfl rfl (cell_one_new _ _ _) (by intro u hu; simp at hu; subst hu; rfl) (by unfold maxLen; simp; omega) (by simp; omega) (Nat.le_trans HA5.out.size (by simp)) ?_; intro v7 w6 hown6 hgrow6 _ hat6; have HA6 : Hid (AL w6 wA.heap.size v7 wA ((ss ++ [⟨o1, on, oc, oz⟩]) ++ [⟨some ⟨gf, 0, none⟩, fn, fn, frame oz⟩]) xs) := HA5.out.push hown6 hgrow6; obtain ⟨HO6, HNE6⟩ := push_out HO5.out HNE5.out hgrow6 hat6; clear hown6 hgrow6 hat6))
        obtain ⟨tt, htt⟩ : ∃ tt, (ss ++ [(⟨o1, on, oc, oz⟩ : Sl)]) ++ [(⟨some ⟨gf, 0, none⟩, fn, fn, frame oz⟩ : Sl)] = tt := ⟨_, rfl⟩
        have htl : tt.length = ss.length + 2 := by rw [← htt]; simp
        have HTz : Hid (Sizes tt) := by
          show Sizes tt
          rw [← htt]
          intro x hx
          rcases List.mem_append.1 hx with h | h
          · rcases List.mem_append.1 h with h | h
            · exact HSz.out x h
            · obtain rfl := List.mem_singleton.1 h
              show on ≤ 131080
              omega
          · obtain rfl := List.mem_singleton.1 h
            exact hfl
        have HTl : Hid (tt.length ≤ 11 * i + 2) := by have := Hsl.out; show _ ≤ _; omega
        have htl2 : tt.length ≤ 35 := by omega
        rw [htt] at HA6
        clear htl htt HA4 HA5 HO4 HO5 HNE4 HNE5 HSz
        go_loopw [5, 18] (fun v t W => ∃ k : Nat, k ≤ X ∧ k ≤ 9 ∧ t = .int .i64 k ∧ AL W wA.heap.size v wA (tt ++ xs.take k) (xs.drop k) ∧ W.ownsRow w3.heap.size 24 1 (.slice a4 X c4) X (xs.map Sl.val) ∧ (∀ b, v.ownBlock = some b → (Value.slice a4 X c4).ownBlock ≠ some b)) (fun _ t _ => 9 - (intOf t).toNat)
        case atStart => exact ⟨0, by omega, by omega, rfl, by simpa using HA6.out, HO6.out, HNE6.out⟩
        case round =>
          obtain ⟨k, hkX, hk9, rfl, hAk, hOk, hNk⟩ := hrel
          have k0 : (0 : Int) ≤ k := by omega
          by_cases hk : k < X ∧ k < 9
          · obtain ⟨hk1, hk2⟩ := hk
            obtain ⟨x, hx⟩ : ∃ x, xs[k]? = some x := ⟨xs[k]'(by have := HXl.out; omega), List.getElem?_eq_getElem _⟩
            obtain ⟨g4, rfl⟩ : ∃ g, a4 = some ⟨g, 0, none⟩ := by
              rcases hOk.2 with ⟨h1, h2⟩ | ⟨g', cp, cur, h1, _⟩
              · omega
              · cases h1; exact ⟨g', rfl⟩
            have hcell : wr.cell? ⟨g4, k, none⟩ = some (.slice x.a x.n x.cap) := by
              rw [hOk.cellAt k (by omega), List.getElem?_map, hx]; rfl
            have hdr : xs.drop k = x :: xs.drop (k + 1) := by
              obtain ⟨h1, h2⟩ := List.getElem?_eq_some_iff.1 hx
              rw [← h2]; exact List.drop_eq_getElem_cons h1
            rw [hdr] at hAk
            have hpl : (tt ++ xs.take k).length ≤ 44 := by simp; omega
            obtain ⟨pp, hpp⟩ : ∃ pp, tt ++ xs.take k = pp := ⟨_, rfl⟩
            rw [hpp] at hAk hpl
            have HPP : Hid (pp ++ [x] = tt ++ xs.take (k + 1)) := by
              show pp ++ [x] = _
              obtain ⟨h1, h2⟩ := List.getElem?_eq_some_iff.1 hx
              rw [← hpp, List.take_succ_eq_append_getElem h1, h2, List.append_assoc]
            have HAk : Hid (AL wr wA.heap.size u5 wA pp (x :: xs.drop (k + 1))) := hAk
            have HOk : Hid (wr.ownsRow w3.heap.size 24 1 (.slice (some ⟨g4, 0, none⟩) X c4) X (xs.map Sl.val)) := hOk
            have HNk : Hid (∀ b, u5.ownBlock = some b → (Value.slice (some ⟨g4, 0, none⟩) X c4).ownBlock ≠ some b) := hNk
            have k1 : (k : Int) < X := by omega
            have k2 : (k : Int) < 9 := by omega
            clear hAk hOk hNk hpp hdr hx
            go_wp2_with (at_builtin; refine wpList_append_own_at _ rfl (.tmp 76) (.tmp 81) 22 rfl wA.heap.size 24 i24 (.slice none 0 0) 1 24 Tryd.underlying22 hi24 hz240 hz241 hz242 rfl (by decide) u5 pp.length (pp.map Sl.val) rfl (HAk.out.own.alloc _) ⟨wr.heap.size, 0, none⟩ 1 1 [.slice x.a x.n x.cap] rfl rfl (cell_one_new _ _ _) (by intro u hu; simp at hu; subst hu; rfl) (by unfold maxLen; omega) (by omega) (Nat.le_trans HAk.out.size (by simp)) ?_; intro v8 w8 hown8 hgrow8 _ hat8; have HA8 : Hid (AL w8 wA.heap.size v8 wA (pp ++ [x]) (xs.drop (k + 1))) := HAk.out.push hown8 hgrow8; obtain ⟨HO8, HNE8⟩ := push_out HOk.out HNk.out hgrow8 hat8; clear hown8 hgrow8 hat8)
            go_roundw
            case rel => exact ⟨k + 1, by omega, by omega, by go_num, by have := HA8.out; rw [HPP.out] at this; exact this, HO8.out, HNE8.out⟩
            case measure => simp [intOf]; omega
          · have HAk : Hid (AL wr wA.heap.size u5 wA (tt ++ xs.take k) []) := hAk.drop
            have hcase : (¬ k < X) ∨ (k < X ∧ k = 9) := by omega
            clear hAk hOk hNk hk HO6 HNE6 HA6
            rcases hcase with h | ⟨h, rfl⟩
            · go_wp2
              go_roundw
              case rel => exact ⟨i + 1, tt ++ xs.take k, by omega, by go_num, HAk.out, by have := HTl.out; simp; omega, fun y hy => by
                rcases List.mem_append.1 hy with h1 | h1
                · exact HTz.out y h1
                · have := Hxs.out y (List.mem_of_mem_take h1); omega⟩
              case measure => simp [intOf]; omega
            · go_wp2
              go_roundw
              case rel => exact ⟨i + 1, tt ++ xs.take 9, by omega, by go_num, HAk.out, by have := HTl.out; simp; omega, fun y hy => by
                rcases List.mem_append.1 hy with h1 | h1
                · exact HTz.out y h1
                · have := Hxs.out y (List.mem_of_mem_take h1); omega⟩
              case measure => simp [intOf]; omega
    · obtain ⟨M, hM⟩ : ∃ M, ss.length = M := ⟨_, rfl⟩
      have hMl : M ≤ 33 := by omega
      obtain ⟨a5, c5, hu5⟩ := own_shape hA.own
      rw [hM] at hu5
      subst hu5
      have HA0 : Hid (AL wr wA.heap.size (.slice a5 M c5) wA ss []) := hA
      have HSz : Hid (Sizes ss) := hSz
      have HM : Hid (ss.length = M) := hM
      clear hA hSz hM hsl hwr H0 H1 HT
      go_wp2_with fail
      go_loopw [19] (fun t W => ∃ (i : Nat) (ts : List Sl), i ≤ M ∧ t = .int .i64 i ∧ ts.length = M ∧ AL W wA.heap.size (.slice a5 M c5) wA ts [] ∧ Filled i ts ∧ Sizes ts) (fun t _ => M - (intOf t).toNat)
      case atStart => exact ⟨0, ss, by omega, rfl, HM.out, HA0.out, fun j s hj => by omega, HSz.out⟩
      case round =>
        obtain ⟨i, ts, hi', rfl, htl, hA, hF, hS⟩ := hrel
        by_cases hik : i < M
        · obtain ⟨x, hx⟩ : ∃ x, ts[i]? = some x := ⟨ts[i]'(by omega), List.getElem?_eq_getElem _⟩
          obtain ⟨g, rfl⟩ : ∃ g, a5 = some ⟨g, 0, none⟩ := by
            rcases hA.own.2 with ⟨h1, h2⟩ | ⟨g', cp, cur, h1, _⟩
            · omega
            · cases h1; exact ⟨g', rfl⟩
          have hdn := hS x (List.mem_of_getElem? hx)
          have i0' : (0 : Int) ≤ i := by omega
          have i1' : (i : Int) < M := by omega
          obtain ⟨dn, hdn'⟩ : ∃ m, x.n = m := ⟨_, rfl⟩
          rw [hdn'] at hdn
          have HA : Hid (AL wr wA.heap.size (.slice (some ⟨g, 0, none⟩) M c5) wA ts []) := hA
          have HF : Hid (Filled i ts) := hF
          have HS : Hid (Sizes ts) := hS
          have HX : Hid (ts[i]? = some x ∧ x.n = dn) := ⟨hx, hdn'⟩
          have HTL : Hid (ts.length = M) := htl
          clear hA hF hS hx hdn' htl
          go_wp2_with fail
          go_loopw [20] (fun t W => ∃ (k : Nat) (us : List Sl) (y : Sl), k ≤ dn ∧ t = .int .i64 k ∧ us.length = M ∧ AL W wA.heap.size (.slice (some ⟨g, 0, none⟩) M c5) wA us [] ∧ Filled i us ∧ Sizes us ∧ us[i]? = some y ∧ y.n = dn ∧ Marks i y k) (fun t _ => dn - (intOf t).toNat)
          case atStart => exact ⟨0, ts, x, by omega, rfl, HTL.out, HA.out, HF.out, HS.out, HX.out.1, HX.out.2, fun k hk => by omega⟩
          case round =>
            obtain ⟨k, us, y, hk, rfl, hul, hA, hF, hS, hy, hyn, hM⟩ := hrel
            have m3 := al_cell hA hul i y hy
            have hL0 := hA.rows y (by simp [List.mem_of_getElem? hy])
            obtain ⟨da, dn', dc, dz⟩ := y
            have hyn := hyn.symm
            subst hyn
            have hL : wr.ownsRow wA.heap.size 5 1 (.slice da dn dc) dn (vals dz) := hL0
            have hdl : dz.length = dn := by have := hL.1; simpa [vals_length] using this
            dsimp only [Sl.val] at m3
            have k0 : (0 : Int) ≤ k := by omega
            have HA : Hid (AL wr wA.heap.size (.slice (some ⟨g, 0, none⟩) M c5) wA us []) := hA
            have HF : Hid (Filled i us) := hF
            have HS : Hid (Sizes us) := hS
            have HX : Hid (us[i]? = some ⟨da, dn, dc, dz⟩) := hy
            have HMk : Hid (Marks i ⟨da, dn, dc, dz⟩ k) := hM
            have HTL : Hid (us.length = M) := hul
            have HDL : Hid (dz.length = dn) := hdl
            clear hA hF hS hy hM hul hL0
            by_cases hkn : k < dn
            · obtain ⟨b, rfl⟩ : ∃ b, da = some ⟨b, 0, none⟩ := by
                rcases hL.2 with ⟨h1, h2⟩ | ⟨g', cp, cur, h1, _⟩
                · omega
                · cases h1; exact ⟨g', rfl⟩
              have hcell : wr.cell? ⟨b, k, none⟩ = some (.int .u8 (dz.getD k 0)) := by rw [hL.cellAt k (by omega), vals_get _ _ (by omega)]
              have hfro : wr.frozen? ⟨b, k, none⟩ = false := hL.frozenAt k
              have k1 : (k : Int) < dn := by omega
              clear hL hdl
              go_wp2
              go_roundw
              case rel =>
                refine ⟨k + 1, us.set i ⟨some ⟨b, 0, none⟩, dn, dc, dz.set k (3 * (i : Int))⟩, _, by omega, by go_num, by simpa using HTL.out, HA.out.store i b dn dc dz HX.out k _, ?_, ?_, List.getElem?_set_self (List.getElem?_eq_some_iff.1 HX.out).1, rfl, ?_⟩
                · intro j y hj hjy
                  rw [List.getElem?_set_ne (by omega)] at hjy
                  exact HF.out j y hj hjy
                · intro y hy
                  rcases mem_set_cases hy with rfl | ⟨j, _, hjy⟩
                  · exact hdn
                  · exact HS.out y (List.mem_of_getElem? hjy)
                · intro q hq
                  by_cases hqk : q = k
                  · subst hqk
                    simp [List.getD, HDL.out, hkn]
                  · have := HMk.out q (by omega)
                    simpa [List.getD, List.getElem?_set_ne (show k ≠ q by omega)] using this
              case measure => simp [intOf]; omega
            · go_wp2
              go_roundw
              case rel =>
                refine ⟨i + 1, us, by omega, by go_num, HTL.out, HA.out, ?_, HS.out⟩
                intro j y hj hjy
                by_cases hji : j = i
                · subst hji
                  rw [HX.out] at hjy
                  cases hjy
                  intro q hq
                  exact HMk.out q (by dsimp only at hq; omega)
                · exact HF.out j y (by omega) hjy
              case measure => simp [intOf]; omega
        · obtain ⟨w9, hw9⟩ : ∃ W, W = wr := ⟨_, rfl⟩
          subst hw9
          have HP0 : Hid (PH w9 wA.heap.size (.slice a5 M c5) (.slice none 0 0) wA ts []) := PH.begin hA
          have HF9 : Hid (∀ (j : Nat) (s : Sl), ts[j]? = some s → Marks j s s.n) := fun j s hs => hF j s (by have := (List.getElem?_eq_some_iff.1 hs).1; omega) hs
          have HS9 : Hid (Sizes ts) := hS
          have HT9 : Hid (ts.length = M) := htl
          clear hA hF hS htl HA0 HSz HM hi3
          go_wp2_with fail
          go_loopw [21, 22] (fun v t W => ∃ (i : Nat) (gs : List Sl), i ≤ M ∧ t = .int .i64 i ∧ gs.length = i ∧ PH W wA.heap.size (.slice a5 M c5) v wA ts gs) (fun _ t _ => M - (intOf t).toNat)
          case atStart => exact ⟨0, [], by omega, rfl, rfl, HP0.out⟩
          case round =>
            obtain ⟨i, gs, hi', rfl, hgl, hP⟩ := hrel
            by_cases hik : i < M
            · obtain ⟨s, hs⟩ : ∃ s, ts[i]? = some s := ⟨ts[i]'(by have := HT9.out; omega), List.getElem?_eq_getElem _⟩
              obtain ⟨g, rfl⟩ : ∃ g, a5 = some ⟨g, 0, none⟩ := by
                rcases hP.own5.2 with ⟨h1, h2⟩ | ⟨g', cp, cur, h1, _⟩
                · have := HT9.out; omega
                · cases h1; exact ⟨g', rfl⟩
              have m3 := own_cell hP.own5 HT9.out i s hs
              have hsn := HS9.out s (List.mem_of_getElem? hs)
              have i0' : (0 : Int) ≤ i := by omega
              have i1' : (i : Int) < M := by omega
              obtain ⟨w10, hw10⟩ : ∃ W, W = wr := ⟨_, rfl⟩
              subst hw10
              have hRs := hP.later i s (by omega) hs
              have HI0 : Hid (II w10 w10 wA.heap.size wA s s 0 (3 * (i : Int) + 1)) := II.begin hRs hP.low
              obtain ⟨sa, sn, sc, sz⟩ := s
              dsimp only [Sl.val] at m3 hsn
              have HP : Hid (PH w10 wA.heap.size (.slice (some ⟨g, 0, none⟩) M c5) u21 wA ts gs) := hP
              have HR : Hid (RowOf w10 wA.heap.size ⟨sa, sn, sc, sz⟩) := hRs
              have HGL : Hid (gs.length = i) := hgl
              have Hs : Hid (ts[gs.length]? = some ⟨sa, sn, sc, sz⟩) := by show _ = _; rw [hgl]; exact hs
              have HSl : Hid (sz.length = sn) := (Rd.of_row hRs).1
              clear hP hRs hgl hs
              go_wp2_with fail
              go_loopw [23, 24] (fun v t W => ∃ (k : Nat) (q : Sl), k ≤ 20 ∧ t = .int .i64 k ∧ v = q.val ∧ II w10 W wA.heap.size wA ⟨sa, sn, sc, sz⟩ q k (3 * (i : Int) + 1)) (fun _ t _ => 20 - (intOf t).toNat)
              case atStart => exact ⟨0, ⟨sa, sn, sc, sz⟩, by omega, rfl, rfl, HI0.out⟩
              case round =>
                obtain ⟨k, ⟨qa, qn, qc, qz⟩, hk, rfl, rfl, hI⟩ := hrel
                have k0 : (0 : Int) ≤ k := by omega
                have hqn : qn = sn + k := hI.n
                have hbs : wA.heap.size ≤ wr.heap.size := Nat.le_trans HP.out.size hI.size
                have HI : Hid (II w10 wr wA.heap.size wA ⟨sa, sn, sc, sz⟩ ⟨qa, qn, qc, qz⟩ k (3 * (i : Int) + 1)) := hI
                have HL : Hid (wr.ownsRow wA.heap.size 5 1 (.slice qa qn qc) qn (vals qz)) := hI.own
                have Hqn : Hid (qn = sn + k) := hqn
                have hqs : qn ≤ 131100 := by omega
                clear hI hqn
                dsimp only [Sl.val]
                by_cases hk20 : k < 20
                · have k1 : (k : Int) < 20 := by omega
                  by_cases hr : qn + 1 ≤ qc
                  · obtain ⟨b, rfl⟩ : ∃ b, qa = some ⟨b, 0, none⟩ := by
                      rcases HL.out.2 with ⟨h1, h2⟩ | ⟨g', cp, cur, h1, _⟩
                      · injection h1 with h4 h5 h6; omega
                      · injection h1 with h4 h5 h6; exact ⟨g', h4⟩
                    go_wp2_with (at_builtin; refine wpList_append_fits _ rfl (.tmp 121) (.tmp 126) 24 rfl wA.heap.size 5 i5 1 Tryd.underlying24 hi5 hz51 b qn qc (vals qz) rfl (HL.out.alloc _) ⟨wr.heap.size, 0, none⟩ 1 1 [.int .u8 (3 * (i : Int) + 1)] rfl rfl (cell_one_new _ _ _) (by intro u hu; simp at hu; subst hu; rfl) hr ?_; intro w11 hown11 hgrow11; have HI11 : Hid (II w10 w11 wA.heap.size wA ⟨sa, sn, sc, sz⟩ ⟨some ⟨b, 0, none⟩, qn + 1, qc, qz ++ [3 * (i : Int) + 1]⟩ (k + 1) (3 * (i : Int) + 1)) := HI.out.fits HR.out hbs hown11 hgrow11; clear hown11 hgrow11)
                    go_roundw
                    case rel => exact ⟨k + 1, ⟨some ⟨b, 0, none⟩, qn + 1, qc, qz ++ [3 * (i : Int) + 1]⟩, by omega, by go_num, rfl, HI11.out⟩
                    case measure => simp [intOf]; omega
                  · have HOl : Hid (∀ o : Obj, ∀ b, qa = some b → ∀ j u, (vals qz)[j]? = some u → (wr.alloc o).cell? (b.add j) = some u) := fun o b hb j u hu => own_olds (HL.out.alloc o) hb j u hu
                    have Hnn : Hid (qa = none → qn = 0 ∧ qc = 0) := fun h => by
                      rcases HL.out.2 with ⟨h1, h2⟩ | ⟨g', cp, cur, h1, _⟩
                      · injection h1 with h4 h5 h6; exact ⟨h2, h6⟩
                      · injection h1 with h4 h5 h6; rw [h] at h4; cases h4
                    have Hql : Hid ((vals qz).length = qn * 1) := HL.out.1
                    go_wp2_with (at_builtin; refine wpList_append_grows _ rfl (.tmp 121) (.tmp 126) 24 rfl 5 i5 (.int .u8 0) 1 1 Tryd.underlying24 hi5 hz50 hz51 hz52 rfl (by decide) qa qn qc (vals qz) rfl Hnn.out Hql.out (HOl.out _) ⟨wr.heap.size, 0, none⟩ 1 1 [.int .u8 (3 * (i : Int) + 1)] rfl rfl (cell_one_new _ _ _) (by intro u hu; simp at hu; subst hu; rfl) (by omega) (by unfold maxLen; omega) (by omega) ?_; intro v11 w11 hown11 hgrow11; obtain ⟨a11, c11, hv11, HI11⟩ := HI.out.grows HSl.out hbs hown11 hgrow11; subst hv11; clear hown11 hgrow11)
                    go_roundw
                    case rel => exact ⟨k + 1, ⟨a11, qn + 1, c11, qz ++ [3 * (i : Int) + 1]⟩, by omega, by go_num, rfl, HI11⟩
                    case measure => simp [intOf]; omega
                · obtain rfl : k = 20 := by omega
                  have HM21 : Hid (wr.ownsRow wA.heap.size 24 1 u21 gs.length (gs.map Sl.val)) := (HP.out.mid Hs.out HI.out).2
                  have hgs : gs.length ≤ 33 := by have := HGL.out; omega
                  have HI20 : Hid (II w10 wr wA.heap.size wA ⟨sa, sn, sc, sz⟩ ⟨qa, qn, qc, qz⟩ 20 (3 * (gs.length : Int) + 1)) := by
                    show II _ _ _ _ _ _ _ _
                    rw [HGL.out]; exact HI.out
                  go_wp2_with (at_builtin; refine wpList_append_own_at _ rfl (.tmp 128) (.tmp 130) 22 rfl wA.heap.size 24 i24 (.slice none 0 0) 1 24 Tryd.underlying22 hi24 hz240 hz241 hz242 rfl (by decide) u21 gs.length (gs.map Sl.val) rfl (HM21.out.alloc _) ⟨wr.heap.size, 0, none⟩ 1 1 [.slice qa qn qc] rfl rfl (cell_one_new _ _ _) (by intro u hu; simp at hu; subst hu; rfl) (by unfold maxLen; omega) (by omega) (by simp; omega) ?_; intro v12 w12 hown12 hgrow12 _ hat12; have HP12 : Hid (PH w12 wA.heap.size (.slice (some ⟨g, 0, none⟩) M c5) v12 wA ts (gs ++ [⟨qa, qn, qc, qz⟩])) := HP.out.next Hs.out HI20.out hown12 hgrow12 hat12; clear hown12 hgrow12 hat12)
                  go_roundw
                  case rel => exact ⟨i + 1, gs ++ [⟨qa, qn, qc, qz⟩], by omega, by go_num, by simp [HGL.out], HP12.out⟩
                  case measure => simp [intOf]; omega
            · obtain ⟨w11, hw11⟩ : ∃ W, W = wr := ⟨_, rfl⟩
              subst hw11
              have hgM : gs.length = M := by omega
              obtain ⟨a21, c21, hu21⟩ := own_shape hP.own21
              rw [hgM] at hu21
              subst hu21
              have HP : Hid (PH w11 wA.heap.size (.slice a5 M c5) (.slice a21 M c21) wA ts gs) := hP
              have HGM : Hid (gs.length = M) := hgM
              have Bw11 : Below w.heap.size w w11 := hbA.trans (hP.low.mono hbA.size)
              clear hP hgM hgl HP0
              go_wp2_with fail
              go_loopw [25] (fun t W => ∃ i : Nat, i ≤ M ∧ t = .int .i64 i ∧ W = w11) (fun t _ => M - (intOf t).toNat)
              case atStart => exact ⟨0, by omega, rfl, rfl⟩
              case round =>
                obtain ⟨j, hj', rfl, hwr⟩ := hrel
                have hwr := hwr.symm
                subst hwr
                by_cases hjM : j < M
                · obtain ⟨s, hs⟩ : ∃ s, ts[j]? = some s := ⟨ts[j]'(by have := HT9.out; omega), List.getElem?_eq_getElem _⟩
                  obtain ⟨q, hq⟩ : ∃ q, gs[j]? = some q := ⟨gs[j]'(by have := HGM.out; omega), List.getElem?_eq_getElem _⟩
                  obtain ⟨g5, rfl⟩ : ∃ g, a5 = some ⟨g, 0, none⟩ := by
                    rcases HP.out.own5.2 with ⟨h1, h2⟩ | ⟨g', cp, cur, h1, _⟩
                    · have := HT9.out; omega
                    · cases h1; exact ⟨g', rfl⟩
                  obtain ⟨g21, rfl⟩ : ∃ g, a21 = some ⟨g, 0, none⟩ := by
                    rcases HP.out.own21.2 with ⟨h1, h2⟩ | ⟨g', cp, cur, h1, _⟩
                    · have := HGM.out; omega
                    · cases h1; exact ⟨g', rfl⟩
                  have m5 := own_cell HP.out.own5 HT9.out j s hs
                  have m21 := own_cell HP.out.own21 HGM.out j q hq
                  obtain ⟨d1, d2, d3, d4⟩ := HP.out.done j s q hs hq
                  have hmk := HF9.out j s hs
                  have hsn := HS9.out s (List.mem_of_getElem? hs)
                  have j0 : (0 : Int) ≤ j := by omega
                  have j1 : (j : Int) < M := by omega
                  obtain ⟨sa, sn, sc, sz⟩ := s
                  obtain ⟨qa, qn, qc, qz⟩ := q
                  dsimp only [Sl.val] at m5 m21 hsn d3 d4 hmk
                  subst d3
                  have D1 : Hid (Rd w11 ⟨sa, sn, sc, sz⟩) := d1
                  have D2 : Hid (Rd w11 ⟨qa, sn + 20, qc, qz⟩) := d2
                  have D4 : Hid (qz = sz ++ List.replicate 20 (3 * (j : Int) + 1)) := d4
                  have HMk : Hid (Marks j ⟨sa, sn, sc, sz⟩ sn) := hmk
                  obtain ⟨K, hK⟩ : ∃ K, sn + 20 = K := ⟨_, rfl⟩
                  rw [hK] at m21
                  have HK : Hid (sn + 20 = K) := hK
                  have hKl : K ≤ 131100 := by omega
                  clear d1 d2 d4 hmk hs hq hK
                  go_wp2_with fail
                  go_loopw [26] (fun t W => ∃ k : Nat, k ≤ K ∧ t = .int .i64 k ∧ W = w11) (fun t _ => K - (intOf t).toNat)
                  case atStart => exact ⟨0, by omega, rfl, rfl⟩
                  case round =>
                    obtain ⟨k, hk, rfl, hwr⟩ := hrel
                    have hwr := hwr.symm
                    subst hwr
                    have k0 : (0 : Int) ≤ k := by omega
                    by_cases hkK : k < K
                    · have k1 : (k : Int) < K := by omega
                      obtain ⟨bq, hqa, hqc⟩ : ∃ b, qa = some ⟨b, 0, none⟩ ∧ w11.cell? ⟨b, k, none⟩ = some (.int .u8 (qz.getD k 0)) := by
                        rcases D2.out.2 with h1 | ⟨b, cur, h1, _, h2⟩
                        · dsimp only at h1; omega
                        · exact ⟨b, h1, h2 k (by have := HK.out; dsimp only; omega)⟩
                      subst hqa
                      by_cases hks : k < sn
                      · obtain ⟨bs, hsa, hsc⟩ : ∃ b, sa = some ⟨b, 0, none⟩ ∧ w11.cell? ⟨b, k, none⟩ = some (.int .u8 (sz.getD k 0)) := by
                          rcases D1.out.2 with h1 | ⟨b, cur, h1, _, h2⟩
                          · dsimp only at h1; omega
                          · exact ⟨b, h1, h2 k hks⟩
                        subst hsa
                        have e1 : sz.getD k 0 = 3 * (j : Int) := HMk.out k hks
                        have e2 : qz.getD k 0 = 3 * (j : Int) := by
                          rw [D4.out, ← e1]
                          have := D1.out.1
                          dsimp only at this
                          simp [List.getD, List.getElem?_append_left (show k < sz.length by omega)]
                        rw [e1] at hsc
                        rw [e2] at hqc
                        have k2 : (k : Int) < sn := by omega
                        clear e1 e2
                        go_wp2
                        go_roundw
                        case rel => exact ⟨k + 1, by omega, by go_num, trivial⟩
                        case measure => simp [intOf]; omega
                      · have e2 : qz.getD k 0 = 3 * (j : Int) + 1 := by
                          rw [D4.out]
                          have h1 := D1.out.1
                          have h2 := HK.out
                          dsimp only at h1
                          rw [List.getD, List.getElem?_append_right (by omega), List.getElem?_replicate, if_pos (by omega)]
                          rfl
                        rw [e2] at hqc
                        have k2 : (sn : Int) ≤ k := by omega
                        clear e2
                        go_wp2
                        go_roundw
                        case rel => exact ⟨k + 1, by omega, by go_num, trivial⟩
                        case measure => simp [intOf]; omega
                    · go_wp2
                      go_roundw
                      case rel => exact ⟨j + 1, by omega, by go_num, trivial⟩
                      case measure => simp [intOf]; omega
                · go_wp2
                  go_ret
                  exact ⟨rfl, Bw11⟩
end Go.Proofs.YtapejmmefhbadaaDoor
