/-
  Files that are not named are forgotten.
-/
import Derived.Test.YtkmohpdcchpndaaUsed
namespace Go.Proofs.Ytkmohpdcchpndaa
open Go.RowKit
set_option linter.unusedVariables false
set_option linter.unusedSimpArgs false
set_option maxRecDepth 100000
/-- what forget leaves -/
structure Fgt (w w' : World) (d : Nat) (x : Dr) (es : List En) (mb : Nat) (D' : DataW Unit) (n : Nat) : Prop where
  but : But d w w'
  blk : w'.heap[d]? = some (.cells #[x.c0, x.c1, x.c2, x.lv, x.lo, x.nv, .map (some mb), x.c7] 69 (0, 0))
  own : w'.ownsMap Try.prog 3 Rf mb n D'
  tidy : Go.Maps.Tidy D'
  new : w.heap.size ≤ mb
  few : n ≤ x.now.elim 0 Go.Maps.size
  all : ∀ nm num, Has1 x.now nm num → ∀ e ∈ es, num = e.num → At1 (some D') e.num e.b
theorem run_makeMap_hint {P : Program} (t k e : TypeId) (n : Int) (w : World) (ht : P.underlying t = some (.map k e)) : (Instr.makeMap t (some (.int .i64 n))).run P w = .ok (.map (some w.heap.size)) (w.alloc (.map #[] 0)) := by
  simp [Instr.makeMap, run_underlying ht, asInt, asIntOf, Result.andThen, go_sem]
theorem hide2 {p : Prop} (h : p) : Hid p := h
theorem made_map (w : World) : (w.alloc (.map #[] 0)).ownsMap Try.prog 3 Rf w.heap.size 0 (.map []) := World.ownsMap_made (H := Unit) w Try.prog 3 Rf
theorem forget_any (w : World) (base d : Nat) (x : Dr) (am : Option Am) (fo : Option (DataW Unit)) (nf made : Nat) (es : List En) (lab : Nat → Nat) (h : Dk w base d x am fo nf made es lab) (hmade : made ≤ 1000000000) (hfew : x.now.elim 0 Go.Maps.size ≤ 1000000) :
    Calls Try.prog 33 #[.pointer (some ⟨d, 0, none⟩)] w fun e w' => e = .returned (.tuple #[]) ∧ ∃ mb D' n, Fgt w w' d x es mb D' n := by
  have hblk := h.dir.blk
  have hnow := h.dir.now
  have hd := lt_of_block hblk
  obtain ⟨mf, hmf⟩ := h.fm.shape
  rcases hnow with ⟨hnv, hnn⟩ | ⟨m, D, hnv, hnn, hbm, hown, htidy⟩
  · rw [hnv, hmf] at hblk
    have h5 : w.cell? ⟨d, 5, none⟩ = some (.map none) := by rw [cell_block hblk]; rfl
    have h6 : w.cell? ⟨d, 6, none⟩ = some (.map mf) := by rw [cell_block hblk]; rfl
    have hz : w.frozen? ⟨d, 6, none⟩ = false := by simp [World.frozen?, hblk]
    have mk := run_makeMap_hint (P := Try.prog) 67 3 70 0 w Try.underlying67
    have rg := run_range_nilMap (P := Try.prog) (w.alloc (.map #[] 0)) 62 9 3 Try.underlying62
    have nx := fun ty => run_next_nilMap (P := Try.prog) (w.alloc (.map #[] 0)) ty 0 0 #[]
    have HB : Hid (Below w.heap.size w ((w.alloc (.map #[] 0)).alloc (.mapIter none 0 #[] 0))) := ((Below.refl _ _).alloc (Nat.le_refl _) _).alloc (by simp) _
    have nx0 := nx 0
    have sz : (w.alloc (.map #[] 0)).heap.size = w.heap.size + 1 := by simp
    rw [sz] at nx0 rg
    have HD : Hid (w.heap[d]? = some (.cells #[x.c0, x.c1, x.c2, x.lv, x.lo, x.nv, x.c6, x.c7] 69 (0, 0))) := h.dir.blk
    clear h hblk nx sz
    go_enter Try.func33, Try.ntmps33
    go_wp2_with fail
    refine wp_loop_rounds 1 ?_
    rw [rounds_succ]
    go_wp2
    have hbk : (w.setCell ⟨d, 6, none⟩ (.map (some w.heap.size))).heap[d]? = some (.cells #[x.c0, x.c1, x.c2, x.lv, x.lo, x.nv, .map (some w.heap.size), x.c7] 69 (0, 0)) := by
      rw [block_setCell HD.out 6 _]; rfl
    have hm : ((w.setCell ⟨d, 6, none⟩ (.map (some w.heap.size))).alloc (.map #[] 0)).heap[w.heap.size]? = some (.map #[] 0) := alloc_new (by simp)
    have hown : (((w.setCell ⟨d, 6, none⟩ (.map (some w.heap.size))).alloc (.map #[] 0)).alloc (.mapIter none 0 #[] 0)).ownsMap Try.prog 3 Rf w.heap.size 0 (.map []) := by
      obtain ⟨es', clock, h2, rest⟩ := made_map (w.setCell ⟨d, 6, none⟩ (.map (some w.heap.size)))
      have sz : (w.setCell ⟨d, 6, none⟩ (.map (some w.heap.size))).heap.size = w.heap.size := by simp
      rw [sz] at h2
      exact ⟨es', clock, (Below.heap_alloc _ _ _ (by simp)).trans h2, rest⟩
    go_end0
    refine ⟨rfl, w.heap.size, .map [], 0, ⟨rfl, rfl, rfl, by simp; omega, fun k hk hkd => ?_⟩, ?_, hown, Go.Maps.tidy_empty, Nat.le_refl _, Nat.zero_le _, ?_⟩
    · refine (Below.heap_alloc _ _ k (by simp; omega)).trans ((Below.heap_alloc _ _ k (by simp; omega)).trans ?_)
      rw [Below.heap_setCell _ _ _ _ (by simpa using hkd)]
    · exact (Below.heap_alloc _ _ d (by simp; omega)).trans ((Below.heap_alloc _ _ d (by simp; omega)).trans hbk)
    · intro nm num hh
      obtain ⟨D, e, _⟩ := hh
      rw [hnn] at e; cases e
  · rw [hnv, hmf] at hblk
    have h5 : w.cell? ⟨d, 5, none⟩ = some (.map (some m)) := by rw [cell_block hblk]; rfl
    have h6 : w.cell? ⟨d, 6, none⟩ = some (.map mf) := by rw [cell_block hblk]; rfl
    have hz : w.frozen? ⟨d, 6, none⟩ = false := by simp [World.frozen?, hblk]
    obtain ⟨L, hL⟩ : ∃ L, Go.Maps.size D = L := ⟨_, rfl⟩
    have hlen : ∀ ty, (Builtin.len_ #[62] ty #[.map (some m)]).run Try.prog w = .ok (.int .i64 (L : Int)) w := fun ty => hL ▸ hown.len Try.underlying62 ty
    have mk := run_makeMap_hint (P := Try.prog) 67 3 70 L w Try.underlying67
    have hml := hown.lt
    have hown1 : OM (w.alloc (.map #[] 0)) m x.bn D := by
      obtain ⟨es, clock, h2, rest⟩ := hown
      exact ⟨es, clock, (Below.heap_alloc _ _ _ hml).trans h2, rest⟩
    have HK : Hid (∀ wr (nm : ByteArray) (c : Int), Below w.heap.size w wr → (∀ zd, D.atKey (keyOf nm) zd = .lit (.int .i64 c)) → ∃ e ∈ es, c = e.num ∧ e.num ≤ 1000000000 ∧ wr.cell? ⟨d, 6, none⟩ = some (.map mf) ∧ (Instr.lookup 67 (.map mf) (.int .i64 c) false).run Try.prog wr = .ok (.pointer (some ⟨e.b, 0, none⟩)) wr) := by
      intro wr nm c hb hat
      obtain ⟨e, he, hc⟩ := h.named nm c ⟨D, hnn, hat⟩
      subst hc
      have k1 := h.below hb
      obtain ⟨ha, hle⟩ := k1.at_ e he
      have hfm := k1.fm
      rw [hmf] at hfm
      have hbd := k1.dir.blk
      rw [hmf] at hbd
      exact ⟨e, he, rfl, by omega, by rw [cell_block hbd]; rfl, fm_look hfm e.num e.b (by omega) ha⟩
    have HD : Hid (w.heap[d]? = some (.cells #[x.c0, x.c1, x.c2, x.lv, x.lo, x.nv, x.c6, x.c7] 69 (0, 0))) := h.dir.blk
    have HO : Hid (∀ e ∈ es, ∀ y ∈ es, e.num = y.num → e = y) := h.one
    have HS : Hid (x.now.elim 0 Go.Maps.size = L) := by rw [hnn]; exact hL
    have HN : Hid (x.now = some D) := hnn
    have hfewL : L ≤ 1000000 := by rw [hnn] at hfew; simp at hfew; omega
    clear hblk h hmf hL hnn hown hfew
    go_enter Try.func33, Try.ntmps33
    go_wp2_with (first | (at_range; refine wpList_range_own _ rfl _ 62 rfl 9 3 (Go.Maps.string_keyed Try.underlying9) Try.underlying62 _ m x.bn D rfl hown1 ?_; intro w0 hrg0 hg0 hs0) | go_in)
    have sz1 : (w.alloc (.map #[] 0)).heap.size = w.heap.size + 1 := by simp
    rw [sz1] at hrg0 hs0 ⊢
    go_frame
    go_loopw [4] (fun t wr => ∃ (left : Lit → Bool) (cnt n : Nat) (D' : DataW Unit), wr.ranges Try.prog 9 (plainElem (H := Unit) Try.prog 3) m (w.heap.size + 1) x.bn D left cnt ∧ Hid (wr.ownsMap Try.prog 3 Rf w.heap.size n D') ∧ Hid (Go.Maps.Tidy D') ∧ Hid (n + cnt ≤ L) ∧ Hid (Below w.heap.size w wr) ∧ Hid (w.heap.size + 1 < wr.heap.size) ∧ Hid (∀ nm num, Has1 (some D) nm num → left (keyOf nm) = false → ∀ e ∈ es, num = e.num → At1 (some D') e.num e.b)) (fun _ wr => wr.rangeLeft m (w.heap.size + 1))
    case atStart =>
      refine ⟨_, _, 0, .map [], hrg0, (made_map w).kept hg0 (by simp), Go.Maps.tidy_empty, ?_, ?_, ?_, ?_⟩
      · have := HS.out; rw [HN.out] at this
        show 0 + Go.Maps.size D ≤ L
        simp at this; omega
      · exact ((Below.refl _ _).alloc (Nat.le_refl _) _).grown hg0 (by simp) (fun j hj => by cases hj)
      · show w.heap.size + 1 < w0.heap.size
        omega
      · intro nm num hh hl e he hn
        obtain ⟨D1, e1, hat⟩ := hh
        cases e1
        rw [Go.Maps.has_true_of_atKey hat] at hl
        cases hl
    case round =>
      obtain ⟨left, cnt, n, D', hrg, HM, HT, HC, HB, HZ, HA⟩ := hrel
      go_wp2_with (first | (at_next; refine wpList_next_ranges _ rfl _ rfl 9 (Go.Maps.string_keyed Try.underlying9) (plainElem (H := Unit) Try.prog 3) Value.string (Value.int .i64) (fun key kl h => Maps.keyOf_string_inv Try.underlying9 h) (fun v y hv => by obtain ⟨c, rfl, _⟩ := plainElem_int_inv Try.underlying3 hv; exact ⟨c, rfl⟩) m (w.heap.size + 1) x.bn _ _ _ rfl hrg ?_ ?_) | go_in)
      · intro hc0 hl0
        have h6' := (HB.out.cell (p := ⟨d, 6, none⟩) hd).trans h6
        have hz' := (HB.out.frozen (p := ⟨d, 6, none⟩) hd).trans hz
        have HF : Hid (∀ kl, left kl = false) := hl0
        clear hl0
        go_wp2
        go_end0
        have hn := HC.out
        refine ⟨rfl, w.heap.size, D', n, ⟨HB.out.os, HB.out.tape, HB.out.output, by simpa using HB.out.size, fun k hk hkd => ?_⟩, ?_, ?_, HT.out, Nat.le_refl _, by rw [HS.out]; omega, fun nm num hh e he hnn => HA.out nm num (HN.out ▸ hh) (HF.out _) e he hnn⟩
        · rw [Below.heap_setCell _ _ _ _ (by simpa using hkd)]; exact HB.out.block k hk
        · rw [block_setCell ((HB.out.block d hd).trans HD.out) 6 _]; rfl
        · obtain ⟨es', clock, h2, rest⟩ := HM.out
          exact ⟨es', clock, by rw [Below.heap_setCell _ _ _ _ (by simp; omega)]; exact h2, rest⟩
      · intro nm c kl y ps w1 cnt1 hkey hlk hRv hat hrg1 hlt hg1 hs1 hen
        have ekl : kl = keyOf nm := by
          simp [Go.keyOf, Try.underlying9, Go.mapKey] at hkey
          exact hkey.2.symm
        subst ekl
        have hy : y = .lit (.int .i64 c) := by
          obtain ⟨c', hv', hy', _⟩ := plainElem_int_inv Try.underlying3 hRv
          cases hv'
          cases hy'
          rfl
        have HB1 : Hid (Below w.heap.size w w1) := HB.out.grown hg1 HB.out.size (fun j hj => by cases hj; omega)
        obtain ⟨e, he, hce, hle, q6, ql⟩ := HK.out w1 nm c HB1.out (fun zd => (hat zd).trans hy)
        obtain ⟨fb, hfb⟩ : ∃ fb, e.b = fb := ⟨_, rfl⟩
        rw [hfb] at ql
        subst hce
        obtain ⟨M, hM⟩ : ∃ M, e.num = M := ⟨_, rfl⟩
        rw [hM] at ql hle hen
        have hMo := HM.out.kept hg1 (by simp)
        have hkey2 : Go.keyOf Try.prog 3 (.int .i64 (M : Int)) = some (fkey M) := Go.Maps.keyOf_int_mk (P := Try.prog) Try.underlying3 (wf_num (num := M) (by omega))
        have hnm : n < maxLen := by
          have := HC.out
          have h1 : (1000000 : Nat) ≤ maxLen := by decide
          omega
        obtain ⟨w2, hrun, hown2, hg2⟩ := hMo.update (Go.Maps.int_keyed Try.underlying3) Try.underlying67 hnm hkey2 (val := .pointer (some ⟨fb, 0, none⟩)) (d := .lit (.int .i64 fb)) (ps := []) rfl
        have HO2 := hide2 hown2
        have HG2 := hide2 hg2
        have HG1 := hide2 hg1
        have HHen := hide2 hat
        clear hown2 hg2 hMo hkey2 hat hkey hRv
        rw [hM]
        go_wp2_with fail
        go_roundw
        case rel =>
          refine ⟨_, cnt1, n + 1, _, hrg1.kept HG2.out (by simp; omega) (by simp), HO2.out, HT.out.put (by trivial) _, ?_, ?_, ?_, ?_⟩
          · have := HC.out
            show n + 1 + cnt1 ≤ L
            omega
          · exact HB1.out.grown HG2.out HB1.out.size (fun j hj => by cases hj; exact Nat.le_refl _)
          · have := HZ.out
            have h2 := HG2.out.size
            show w.heap.size + 1 < w2.heap.size
            omega
          · intro nm' num hh hl e' he' hn'
            by_cases hkk : nm' = nm
            · subst hkk
              have h1 : num = (e.num : Int) := by
                obtain ⟨D1, e1, hat'⟩ := hh
                cases e1
                have h2 := HHen.out .nil
                rw [hat' .nil, hy] at h2
                simp at h2
                exact h2
              have h3 : e' = e := HO.out e' he' e he (by omega)
              subst h3
              rw [hfb, hM]
              exact at_put_same HT.out M fb
            · have hne : (keyOf nm').sameKey (keyOf nm) = false := Go.Maps.sameKey_ne (keyOf_ne hkk)
              have hl' : left (keyOf nm') = false := by simpa [hne] using hl
              have h1 := HA.out nm' num hh hl' e' he' hn'
              by_cases hq : e'.num = M
              · have h3 : e' = e := HO.out e' he' e he (by omega)
                subst h3
                rw [hfb, hM]
                exact at_put_same HT.out M fb
              · exact at_put_other h1 hq _
        case measure =>
          rw [(hrg1.kept HG2.out (by simp; omega) (by simp)).left_eq, hrg.left_eq]; exact hlt
end Go.Proofs.Ytkmohpdcchpndaa
