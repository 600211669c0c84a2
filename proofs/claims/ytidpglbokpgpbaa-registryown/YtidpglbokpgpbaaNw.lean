/- New; Set, over list's contract; Probe. -/
import Derived.Test.YtidpglbokpgpbaaTo
import Derived.Test.YtidpglbokpgpbaaLi
import Derived.Test.YtidpglbokpgpbaaSo
import Derived.Test.YtidpglbokpgpbaaSe
import Derived.OwnWalk
namespace Go.Proofs.Ytidpglbokpgpbaa
open Go.RowKit
set_option linter.unusedVariables false
set_option linter.unusedSimpArgs false
set_option maxRecDepth 100000
def Rg.new (rise fall : Int) : Rg := ⟨[], none, 0, 0, [], none, 0, none, 0, fun _ => none, fun _ => St.new rise fall, St.new rise fall⟩
theorem newR_no (r f : Int) (w : World) (hr : -9223372036854775808 ≤ r ∧ r ≤ 9223372036854775807) (hf : -9223372036854775808 ≤ f ∧ f ≤ 9223372036854775807) (h : ¬ okT r f) :
    Calls Try.prog 7 #[.int .i64 r, .int .i64 f] w fun e w' => e = .returned (.tuple #[.pointer none, .int .i64 2]) ∧ w' = w := by
  have h1 := new_no r f w hr hf h
  clear h
  go_enter Try.func7, Try.ntmps7
  go_wp2_with (go_at_call 17; refine h1.mono ?_; rintro e w' ⟨rfl, rfl⟩)
  go_ret2
  exact ⟨rfl, rfl⟩
theorem newR_ok (r f : Int) (w : World) (h : okT r f) :
    Calls Try.prog 7 #[.int .i64 r, .int .i64 f] w fun e w' => ∃ b, e = .returned (.tuple #[.pointer (some ⟨b, 0, none⟩), .int .i64 0]) ∧ Rr w' w.heap.size b 0 (Rg.new r f) ∧ Below w.heap.size w w' := by
  have h1 := new_ok r f w h
  have HO := hideL h
  clear h
  go_enter Try.func7, Try.ntmps7
  go_wp2_with (go_at_call 17; refine h1.mono ?_; rintro e w1 ⟨rfl, hs, hb⟩; have HB := hideL hb; have HSS := hideL hs; obtain ⟨c0, c1, c2, c3, c4, c5, c6⟩ := hs.cells; clear hs hb; unfold St.new at c0 c1 c2 c3 c4 c5 c6; dsimp only at c0 c1 c2 c3 c4 c5 c6)
  go_ret2
  refine ⟨w1.heap.size, rfl, ⟨?_, HB.out.size, Ov.nil _ _ _, Ov.nil _ _ _, Mo.nil_ _ (fun _ => rfl), fun k p e => (by cases e), Ok.new HO.out, Nat.le_refl _, Nat.zero_le _, fun k k' p e => (by cases e)⟩, HB.out.alloc HB.out.size _⟩
  rw [Go.heap_alloc_new]
  rfl
/-- what Set does -/
def SetE (L : List Rs) (r r' : Rg) (k : Int) : Prop :=
  (k = 2 ∧ r' = r ∧ ¬ ((svcF L).map Prod.fst).Nodup) ∨
  (k = 0 ∧ (sayL r'.ss).Perm (svcF L) ∧ Srt (sayL r'.ss) ∧ r'.fr = r.fr ∧ (∀ s, (s ∈ allE r'.ss → r'.at_ s = some ((r.at_ s).getD r.fr)) ∧ (s ∉ allE r'.ss → r'.at_ s = none)) ∧ sayL r'.vw = r'.vwF ∧ ((sayL r.vw = r'.vwF ∧ r'.ep = r.ep) ∨ (sayL r.vw ≠ r'.vwF ∧ r'.ep = r.ep + 1)))
/-- the registry once services and states are laid -/
def Rg.laid (r : Rg) (S : Nat) (qs : List Hx) (qa : Option Addr) (qc m N : Nat) (f : ByteArray → Option Nat) : Rg := { r with ss := qs, sa := qa, sc := qc, mo := some m, N := N, pl := f, sf := fun p => if p < S then r.sf p else r.fr }
theorem laid_at {w W : World} {base b n : Nat} {r : Rg} (h : Rr w base b n r) {qs : List Hx} {qa : Option Addr} {qc m N : Nat} {f : ByteArray → Option Nat} (hs : StI r w.heap.size W f (allE qs)) (s : ByteArray) :
    (s ∈ allE qs → (r.laid w.heap.size qs qa qc m N f).at_ s = some ((r.at_ s).getD r.fr)) ∧ (s ∉ allE qs → (r.laid w.heap.size qs qa qc m N f).at_ s = none) := by
  refine ⟨fun hm => ?_, fun hm => ?_⟩
  · obtain ⟨p, h1, h2⟩ := (hs s).1 hm
    show (f s).map (fun p => if p < w.heap.size then r.sf p else r.fr) = _
    rw [h1, Option.map_some]
    rcases h2 with h2 | ⟨h2, h3, _⟩
    · have := lt_of_block (h.sts s p h2).2.1
      rw [if_pos this]
      unfold Rg.at_; rw [h2]; rfl
    · rw [if_neg (by omega)]
      unfold Rg.at_; rw [h2]; rfl
  · show (f s).map _ = _
    rw [(hs s).2 hm]; rfl
/-- Set's own state between list and look -/
theorem laid_rr {w w1 w2 : World} {base b n : Nat} {r : Rg} (h : Rr w base b n r) {qs : List Hx} {qa : Option Addr} {l qc N : Nat} {f : ByteArray → Option Nat}
    (hb1 : Below w.heap.size w w1) (hl : qs.length = l) (hv : Ov w1 w.heap.size 78 (.slice qa l qc) qs) (hb2 : Below w1.heap.size w1 w2) (hm : Ms w2 w1.heap.size N f) (hN : N ≤ 1099511627776) (hs : StI r w1.heap.size w2 f (allE qs)) (hj : StJ w2 f) :
    Rr ((w2.setCell ⟨b, 2, none⟩ (.slice qa l qc)).setCell ⟨b, 3, none⟩ (.map (some w1.heap.size))) base b n (r.laid w1.heap.size qs qa qc w1.heap.size N f) := by
  subst hl
  have hbs := h.bs
  have hb : b < w.heap.size := lt_of_block h.blk
  have h1 := h.below hb1
  have h2 := h1.below hb2
  have hbb : But b w2 ((w2.setCell ⟨b, 2, none⟩ (.slice qa qs.length qc)).setCell ⟨b, 3, none⟩ (.map (some w1.heap.size))) := (But.set 2 _).trans (But.set 3 _)
  have hsz := hb1.size
  have hsz2 := hb2.size
  have hnb : ∀ {p : Nat} {s : St}, Hs w2 p s → Hs ((w2.setCell ⟨b, 2, none⟩ (.slice qa qs.length qc)).setCell ⟨b, 3, none⟩ (.map (some w1.heap.size))) p s := fun {p s} hp => (hbb.block p (lt_of_block hp) (fun e => by subst e; have := h2.blk; rw [hp] at this; cases this)).trans hp
  refine ⟨?_, h.lo, ?_, ?_, ?_, fun k p e => ?_, h.fr, h.ep, hN, hj.2⟩
  · rw [set_blk (set_blk h2.blk 2 _) 3 _]
    rfl
  · exact h2.vw.keep (fun k cs t hk hc ht => hbb.block k (lt_of_block hc) (fun e => by subst e; have := h2.blk; rw [hc] at this; injection this with this; injection this with _ this; subst this; rcases ht with ht | ht <;> cases ht))
  · exact ((hv.below hb2).low hbs).keep (fun k cs t hk hc ht => hbb.block k (lt_of_block hc) (fun e => by subst e; have := h2.blk; rw [hc] at this; injection this with this; injection this with _ this; subst this; rcases ht with ht | ht <;> cases ht))
  · exact Mo.at_ _ _ _ (hm.keep (hbb.block _ hm.lt (by omega))) (by omega)
  · have e : f k = some p := e
    have hk : k ∈ allE qs := Classical.byContradiction fun hn => by rw [(hs k).2 hn] at e; cases e
    obtain ⟨p', h3, h4⟩ := (hs k).1 hk
    rw [e] at h3; cases h3
    show base ≤ p ∧ Hs _ p (if p < w1.heap.size then r.sf p else r.fr) ∧ Ok (if p < w1.heap.size then r.sf p else r.fr) n
    rcases h4 with h4 | ⟨h4, h5, h6⟩
    · obtain ⟨g1, g2, g3⟩ := h1.sts k p h4
      rw [if_pos (lt_of_block g2)]
      exact ⟨g1, hnb (Hs.below g2 hb2 (lt_of_block g2)), g3⟩
    · rw [if_neg (by omega)]
      exact ⟨by omega, hnb h6, h.fr.mono (by omega)⟩
set_option maxHeartbeats 4000000 in
theorem set_any (w : World) (base b n : Nat) (r : Rg) (h : Rr w base b n r) (hn : n ≤ 100000000) (a : Option Addr) (m c : Nat) (L : List Rs) (hL : Calls Try.prog 19 #[.slice a m c] w fun e w' => ListE w w' L e) :
    Calls Try.prog 10 #[.pointer (some ⟨b, 0, none⟩), .slice a m c] w fun e w' => ∃ k, e = .returned (.int .i64 k) ∧ ∃ r', SetE L r r' k ∧ Rr w' base b (n + 1) r' ∧ Stp w w' [b] [b] := by
  have HR := hideL h
  clear h
  go_enter Try.func10, Try.ntmps10
  go_wp2_with (go_at_call 19; refine hL.mono ?_; rintro e w1 ⟨hb1, he⟩; have HB1 := hideL hb1; rcases he with ⟨qa, l, qc, qs, rfl, hql, hv, hp, hs⟩ | ⟨rfl, hnd⟩)
  · have HH := hideL (And.intro hql (And.intro hv (And.intro hp hs)))
    have hst := statesOf_any w1 base b n r (HR.out.below hb1) w.heap.size qa l qc qs hql hv
    clear hql hv hp hs hb1 hL
    refine hst.mono ?_
    rintro e w2 ⟨rfl, N, f, hm, hN, hsi, hsj, hb2⟩
    obtain ⟨hql, hv, hp, hs⟩ := HH.out
    have hN2 : N ≤ 1099511627776 := by
      have : l ≤ 1048576 := hql ▸ hv.le
      have : l * 1048576 ≤ 1048576 * 1048576 := Nat.mul_le_mul_right _ this
      omega
    have hR2 := (HR.out.below HB1.out).below hb2
    obtain ⟨c0, c1, c2, c3⟩ := hR2.cs
    have z := hR2.froz
    have hR3 := laid_rr HR.out HB1.out hql hv hb2 hm hN2 hsi hsj
    have HAT := hideL (fun s => laid_at (HR.out.below HB1.out) (qa := qa) (qc := qc) (m := w1.heap.size) (N := N) hsi s)
    have HR3 := hideL hR3
    have hlk := look_any _ base b n _ hR3 (by omega)
    have HB2 := hideL hb2
    have HPS := hideL (And.intro hp hs)
    clear hsj hN hN2 hR2 hR3 hsi hm hb2 hst hql hv hp hs HH c0 c1
    go_wp2_with (go_at_call 21; refine hlk.mono ?_; rintro e w4 ⟨rfl, r', hlE, hr4, hs4⟩; have HE := hideL hlE; have HR4 := hideL hr4; have HS4 := hideL hs4; clear hlE hr4 hs4)
    go_ret
    refine ⟨0, rfl, r', .inr ?_, HR4.out, ?_⟩
    · obtain ⟨os, a', c', ep, rfl, h1, h2⟩ := HE.out
      exact ⟨rfl, HPS.out.1, HPS.out.2, rfl, HAT.out, h1, h2⟩
    · refine ((Stp.of_below [b] (HB1.out.trans (HB2.out.mono HB1.out.size))).trans ?_).trans HS4.out
      exact (Stp.set b 2 _ (List.mem_singleton.2 rfl)).trans (Stp.set b 3 _ (List.mem_singleton.2 rfl))
  · go_ret
    exact ⟨2, rfl, r, .inl ⟨rfl, rfl, hnd⟩, (HR.out.below hb1).mono (by omega), Stp.of_below [b] hb1⟩
end Go.Proofs.Ytidpglbokpgpbaa
