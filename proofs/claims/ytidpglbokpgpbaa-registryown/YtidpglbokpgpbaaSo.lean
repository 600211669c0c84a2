/- statesOf: the states of services' endpoints. -/
import Derived.Test.YtidpglbokpgpbaaLo
namespace Go.Proofs.Ytidpglbokpgpbaa
open Go.RowKit
set_option linter.unusedVariables false
set_option linter.unusedSimpArgs false
set_option maxRecDepth 100000
/-- what the map says so far -/
def StI (r : Rg) (B : Nat) (W : World) (f : ByteArray → Option Nat) (K : List ByteArray) : Prop := ∀ k, (k ∈ K → ∃ p, f k = some p ∧ (r.pl k = some p ∨ (r.pl k = none ∧ B ≤ p ∧ Hs W p r.fr))) ∧ (k ∉ K → f k = none)
theorem StI.start (r : Rg) (B : Nat) (W : World) : StI r B W (fun _ => none) [] := fun k => ⟨(fun h => by cases h), (fun _ => rfl)⟩
theorem StI.below {r : Rg} {B : Nat} {W W' : World} {f : ByteArray → Option Nat} {K : List ByteArray} (h : StI r B W f K) (hb : Below W.heap.size W W') : StI r B W' f K := fun k => by
  refine ⟨fun hk => ?_, (h k).2⟩
  obtain ⟨p, h1, h2⟩ := (h k).1 hk
  refine ⟨p, h1, h2.imp id (fun g => ⟨g.1, g.2.1, Hs.below g.2.2 hb (lt_of_block g.2.2)⟩)⟩
theorem StI.step {r : Rg} {B : Nat} {w0 W W' : World} {f : ByteArray → Option Nat} {K : List ByteArray} {k : ByteArray} {q : Nat} (h : StI r B W f K) (hB : B ≤ w0.heap.size) (hg : goP w0 W r k q) (hm : ∃ es c, W.heap[B]? = some (.map es c)) (hw : W.grownBy W' (some B)) : StI r B W' (setS f k q) (K ++ [k]) := by
  obtain ⟨es, c, hm⟩ := hm
  have hs : ∀ p, Hs W p r.fr → Hs W' p r.fr := fun p hp => (hw.block p (lt_of_block hp) (fun e => by cases e; rw [hp] at hm; cases hm)).trans hp
  intro k'
  unfold setS
  by_cases e : k' = k
  · subst e
    refine ⟨fun _ => ⟨q, if_pos rfl, ?_⟩, fun hn => absurd (List.mem_append.2 (.inr (List.mem_singleton.2 rfl))) hn⟩
    rcases hg with ⟨g1, _⟩ | ⟨g1, g2, g3, _⟩
    · exact .inl g1
    · exact .inr ⟨g1, by omega, hs _ g3⟩
  · rw [if_neg e]
    refine ⟨fun hk => ?_, fun hn => (h k').2 (fun g => hn (List.mem_append.2 (.inl g)))⟩
    have hk' : k' ∈ K := by
      rcases List.mem_append.1 hk with g | g
      · exact g
      · exact absurd (List.mem_singleton.1 g) e
    obtain ⟨p, h1, h2⟩ := (h k').1 hk'
    exact ⟨p, h1, h2.imp id (fun g => ⟨g.1, g.2.1, hs _ g.2.2⟩)⟩
/-- each state is one name's -/
def StJ (W : World) (f : ByteArray → Option Nat) : Prop := (∀ k p, f k = some p → p < W.heap.size) ∧ ∀ k k' p, f k = some p → f k' = some p → k = k'
theorem StJ.start (W : World) : StJ W (fun _ => none) := ⟨(fun k p h => by cases h), (fun k k' p h => by cases h)⟩
theorem StJ.size {W W' : World} {f : ByteArray → Option Nat} (h : StJ W f) (hs : W.heap.size ≤ W'.heap.size) : StJ W' f := ⟨fun k p e => Nat.lt_of_lt_of_le (h.1 k p e) hs, h.2⟩
theorem StJ.step {r : Rg} {B : Nat} {w0 W : World} {f : ByteArray → Option Nat} {K : List ByteArray} {k : ByteArray} {q : Nat} (h : StJ w0 f) (hi : StI r B w0 f K) (hinj : ∀ k k' p, r.pl k = some p → r.pl k' = some p → k = k') (hlt : ∀ k p, r.pl k = some p → p < B) (hB : B ≤ w0.heap.size) (hg : goP w0 W r k q) : StJ W (setS f k q) := by
  have hsz := hg.below.size
  have hq : q < W.heap.size := by
    rcases hg with ⟨g1, rfl⟩ | ⟨_, _, g3, _⟩
    · have := hlt k q g1; omega
    · exact lt_of_block g3
  have hne : ∀ k2, k2 ≠ k → f k2 = some q → False := by
    intro k2 hk e
    have hm : k2 ∈ K := Classical.byContradiction fun hn => by rw [(hi k2).2 hn] at e; cases e
    obtain ⟨p, e1, e2⟩ := (hi k2).1 hm
    rw [e] at e1; cases e1
    rcases hg with ⟨g1, _⟩ | ⟨_, g2, _, _⟩
    · rcases e2 with e2 | ⟨_, e3, _⟩
      · exact hk (hinj _ _ _ e2 g1)
      · have := hlt k q g1; omega
    · have := h.1 k2 q e; omega
  refine ⟨fun k1 p e => ?_, fun k1 k2 p e1 e2 => ?_⟩
  · unfold setS at e
    by_cases h1 : k1 = k
    · rw [if_pos h1] at e; cases e; exact hq
    · rw [if_neg h1] at e
      have := h.1 k1 p e; omega
  · unfold setS at e1 e2
    by_cases h1 : k1 = k
    · rw [if_pos h1] at e1; cases e1
      by_cases h2 : k2 = k
      · rw [h1, h2]
      · rw [if_neg h2] at e2; exact (hne k2 h2 e2).elim
    · rw [if_neg h1] at e1
      by_cases h2 : k2 = k
      · rw [if_pos h2] at e2; cases e2; exact (hne k1 h1 e1).elim
      · rw [if_neg h2] at e2; exact h.2 _ _ _ e1 e2
def allE (os : List Hx) : List ByteArray := os.flatMap Hx.eps
theorem allE_snoc {os : List Hx} {i : Nat} {o : Hx} (h : os[i]? = some o) : allE (os.take (i + 1)) = allE (os.take i) ++ o.eps := by
  rw [take_snoc h]; unfold allE; rw [List.flatMap_append]; simp
set_option maxHeartbeats 32000000 in
theorem statesOf_any (w : World) (base b n : Nat) (r : Rg) (h : Rr w base b n r) (B0 : Nat) (a : Option Addr) (m c : Nat) (os : List Hx) (hm : os.length = m) (ho : Ov w B0 78 (.slice a m c) os) :
    Calls Try.prog 20 #[.pointer (some ⟨b, 0, none⟩), .slice a m c] w fun e w' => e = .returned (.map (some w.heap.size)) ∧ ∃ N f, Ms w' w.heap.size N f ∧ N ≤ m * 1048576 ∧ StI r w.heap.size w' f (allE os) ∧ StJ w' f ∧ Below w.heap.size w w' := by
  have HR := hideL h
  have HO := hideL ho
  have HM := hideL hm
  have hl : m ≤ 1048576 := hm ▸ ho.le
  have hmm := makeMapS_0
  clear h ho hm
  go_enter Try.func20, Try.ntmps20
  go_wp2_with fail
  go_loopw [13] (fun t wr => ∃ (i N : Nat) (f : ByteArray → Option Nat), t = .int .i64 i ∧ i ≤ m ∧ Ms wr w.heap.size N f ∧ N ≤ i * 1048576 ∧ StI r w.heap.size wr f (allE (os.take i)) ∧ StJ wr f ∧ Below w.heap.size w wr) (fun t _ => m - (intOf t).toNat)
  case atStart => exact ⟨0, 0, _, rfl, by omega, Ms.made w, by omega, StI.start _ _ _, StJ.start _, (Below.refl _ _).alloc (Nat.le_refl _) _⟩
  case round =>
    obtain ⟨i, N, f, rfl, hi, hms, hN, hst, hsj, hbel⟩ := hrel
    have HSJ := hideL hsj
    clear hsj
    have i0 : (0 : Int) ≤ i := by omega
    have HMS := hideL hms
    have HST := hideL hst
    have HB := hideL hbel
    clear hms hst hbel hmm
    by_cases h3 : i < m
    · have h3' : (i : Int) < m := by omega
      rcases hki : os[i]? with _ | o
      · have := List.getElem?_eq_none_iff.1 hki; have := HM.out; omega
      obtain ⟨g, off, rfl, d0, d1⟩ := (HO.out.below HB.out).at_ hki
      have HOO := hideL (HO.out.each o (List.mem_of_getElem? hki))
      have HT := hideL (allE_snoc hki)
      obtain ⟨l, hle⟩ : ∃ l, o.eps.length = l := ⟨_, rfl⟩
      have HLE := hideL hle
      have hll : l ≤ 1048576 := hle ▸ HOO.out.le
      obtain ⟨ea, hea⟩ : ∃ x, o.ea = x := ⟨_, rfl⟩
      have HC : Hid (Cel w ea 1 (o.eps.map strR)) := hea ▸ HOO.out.cel
      rw [hle, hea] at d1
      clear hki hle hea
      go_wp2_with fail
      go_loopw [20] (fun t wi => ∃ (j N : Nat) (f : ByteArray → Option Nat), t = .int .i64 j ∧ j ≤ l ∧ Ms wi w.heap.size N f ∧ N ≤ i * 1048576 + j ∧ StI r w.heap.size wi f (allE (os.take i) ++ o.eps.take j) ∧ StJ wi f ∧ Below w.heap.size w wi) (fun t _ => l - (intOf t).toNat)
      case atStart => exact ⟨0, N, f, rfl, by omega, HMS.out.below (Gr.alloc _ _).below, Nat.le_trans hN (Nat.le_add_right _ _), by simpa using HST.out.below (Gr.alloc _ _).below, HSJ.out.size (Gr.alloc _ _).below.size, HB.out.trans ((Gr.alloc _ _).below.mono HB.out.size)⟩
      case round =>
        obtain ⟨j, N2, f2, rfl, hj, hms2, hN2, hst2, hsj2, hbel2⟩ := hrel
        have HSJ2 := hideL hsj2
        clear hsj2
        have j0 : (0 : Int) ≤ j := by omega
        have HMS2 := hideL hms2
        have HST2 := hideL hst2
        have HB2 := hideL hbel2
        clear hms2 hst2 hbel2 HMS HST HB d0 d1
        by_cases h4 : j < l
        · have h4' : (j : Int) < l := by omega
          rcases hkj : o.eps[j]? with _ | s
          · have := List.getElem?_eq_none_iff.1 hkj; have := HLE.out; omega
          obtain ⟨g2, off2, rfl, hc⟩ := (HC.out.below HB2.out).at_ hkj
          have c0 := hc 0 _ rfl
          rw [Nat.add_zero, Nat.mul_one] at c0
          have hoks := HOO.out.ok s (List.mem_of_getElem? hkj)
          have HTJ := hideL (take_snoc hkj)
          clear hc hkj
          go_wp2_with fail
          refine (goingOn_any _ base b n r (HR.out.below HB2.out) s hoks).mono ?_
          rintro e w2 ⟨q, rfl, hgp⟩
          have HG := hideL hgp
          have HM3 := hideL (HMS2.out.below hgp.below)
          have HB3 := hideL (HB2.out.trans (hgp.below.mono HB2.out.size))
          have hsz : w.heap.size ≤ N2 + w.heap.size := Nat.le_add_left _ _
          obtain ⟨w4, hup, hm4, hg4⟩ := HM3.out.put hoks q (by unfold maxLen; omega)
          have HM4 := hideL hm4
          have HS4 := hideL ((HST2.out.below hgp.below).step HB2.out.size hgp HM3.out.isMap hg4)
          have HJ4 := hideL ((HSJ2.out.step HST2.out HR.out.inj (fun k p e => lt_of_block (HR.out.sts k p e).2.1) HB2.out.size hgp).size hg4.size)
          have HB4 := hideL (HB3.out.grown hg4 HB3.out.size (fun k hk => by cases hk; exact Nat.le_refl _))
          clear hgp hm4 hg4 c0
          go_wp2_with fail
          go_roundw
          case rel =>
            refine ⟨j + 1, N2 + 1, setS f2 s q, by go_num, by omega, HM4.out, by omega, ?_, HJ4.out, HB4.out⟩
            rw [HTJ.out, ← List.append_assoc]; exact HS4.out
          case measure => simp [intOf]; omega
        · have h4' : ¬ (j : Int) < l := by omega
          obtain rfl : j = l := by omega
          go_wp2_with fail
          go_roundw
          case rel =>
            refine ⟨i + 1, N2, f2, by go_num, by omega, HMS2.out, by omega, ?_, HSJ2.out, HB2.out⟩
            rw [HT.out]
            have := HST2.out
            rwa [List.take_of_length_le (l := o.eps) (by have := HLE.out; omega)] at this
          case measure => simp [intOf]; omega
    · have h3' : ¬ (i : Int) < m := by omega
      obtain rfl : i = m := by omega
      have hE : os.take i = os := List.take_of_length_le (by have := HM.out; omega)
      have HS2 := HST.out
      rw [hE] at HS2
      have HS3 := hideL HS2
      clear HS2
      go_wp2
      go_ret
      exact ⟨rfl, N, f, HMS.out, hN, HS3.out, HSJ.out, HB.out⟩
end Go.Proofs.Ytidpglbokpgpbaa
