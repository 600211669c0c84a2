import Derived.Test.YtkmohpdcchpndaaBase
import Derived.ProofKit
import Derived.ChangeOld
import Derived.JoinedCond
import Derived.SizedLaws
import Derived.Lib.SmallJoins
import Derived.Test.YtkmohpdcchpndaaBndE
import Derived.Deep.DeepCutAuto
/-
  What the rows' frames share: bytes and numbers that came in, a struct of five, opened.
-/
namespace Go.Proofs.Ytkmohpdcchpndaa
open Go.ChangeShapes Go.WideShapes Go.ChangeAt Go.RowKit Go.Deep
set_option linter.unusedVariables false
set_option linter.unusedSimpArgs false
theorem own : ownKnob Try.prog.godebug = none := by kernel_rfl
theorem laidOut : laidOutB Try.prog = true := by kernel_rfl
theorem bytes5 : Try.prog.bytesOf 5 = 1 := by kernel_rfl
theorem bytes3 : Try.prog.bytesOf 3 = 8 := by kernel_rfl
theorem octets_of_wf {zs : List Int} (h : ∀ n ∈ zs, (Lit.int .u8 n).wf = true) : Octets zs := fun i => by
  by_cases hi : i < zs.length
  · have := bounds_u8 (h zs[i] (List.getElem_mem hi))
    simp [hi]; omega
  · simp [Nat.le_of_not_lt hi]
/-- a slice of bytes, opened -/
structure InB (W : World) (v : Value) (a : Option Addr) (n c : Nat) (zs : List Int) : Prop where
  val : v = .slice a n c
  len : zs.length = n
  has : Has W a zs
  oct : Octets zs
  bare : a = none → c = 0
  fits : n ≤ c
  cap : c ≤ maxLen
  few : c ≤ 140737488351232
theorem open_bytes {H : Type} {enc : TypeId × Value → H} {W : World} {fuel : Nat} {v : Value} {y : DataW H × List MemPlace} {ts : List TypeId} {ds : List (DataW H)} {j : Nat}
    (hf : DataW.trod enc Try.prog W 0 (fun _ => true) true fuel 32 [v] = some y) (hsz : (DataW.weightsEach Try.prog ts ds).all (· ≤ reachBytes) = true) (ht : ts[j]? = some 32) (hd : ds[j]? = some y.1) :
    ∃ a len cap zs, InB W v a len cap zs := by
  rcases open_ints Try.underlying32 Try.underlying5 (by kernel_rfl) hf with ⟨hcs, _⟩ | ⟨x, l, c, zs, hcs, _, hl, hm, hz, hx, hcell, hwz⟩
  · simp at hcs
    exact ⟨none, 0, 0, [], hcs, rfl, .inl ⟨rfl, rfl⟩, fun j => by simp, fun _ => rfl, Nat.le_refl _, Nat.zero_le _, Nat.zero_le _⟩
  · simp at hcs
    subst hx
    have hs := sized_slice hsz (j := j) (t := 32) (e := 5) ht hd Try.underlying32
    rw [bytes5] at hs
    simp only [lits, List.length_map, List.length_take, List.length_drop, reachBytes] at hs
    have hzl : zs.length = c := by simpa using hz
    refine ⟨some x, l, c, zs.take l, hcs, by simp; omega, ?_, (octets_of_wf hwz).take l, (fun h => by cases h), hl, hm, by omega⟩
    refine .inr ⟨x, rfl, fun j hj => ?_⟩
    have hj' : j < l := by simp at hj; omega
    rw [hcell j (by omega)]; simp [List.getD, hj']
/-- a slice of numbers, opened -/
structure InN (W : World) (v : Value) (a : Option Addr) (n c : Nat) (cs : List Int) : Prop where
  val : v = .slice a n c
  len : cs.length = n
  has : (a = none ∧ cs = []) ∨ ∃ x, a = some x ∧ ∀ j, j < cs.length → W.cell? (x.add j) = some (.int .i64 (cs.getD j 0))
  bare : a = none → c = 0
  fits : n ≤ c
  few : c ≤ 17592186043904
  rng : ∀ c ∈ cs, -9223372036854775808 ≤ c ∧ c ≤ 9223372036854775807
theorem open_nums {H : Type} {enc : TypeId × Value → H} {W : World} {fuel : Nat} {v : Value} {y : DataW H × List MemPlace} {ts : List TypeId} {ds : List (DataW H)} {j : Nat}
    (hf : DataW.trod enc Try.prog W 0 (fun _ => true) true fuel 23 [v] = some y) (hsz : (DataW.weightsEach Try.prog ts ds).all (· ≤ reachBytes) = true) (ht : ts[j]? = some 23) (hd : ds[j]? = some y.1) :
    ∃ a len cap cs, InN W v a len cap cs := by
  rcases open_ints Try.underlying23 Try.underlying3 (by kernel_rfl) hf with ⟨hcs, _⟩ | ⟨x, l, c, zs, hcs, _, hl, hm, hz, hx, hcell, hwz⟩
  · simp at hcs
    exact ⟨none, 0, 0, [], hcs, rfl, .inl ⟨rfl, rfl⟩, fun _ => rfl, Nat.le_refl _, Nat.zero_le _, fun c hc => by cases hc⟩
  · simp at hcs
    subst hx
    have hs := sized_slice hsz (j := j) (t := 23) (e := 3) ht hd Try.underlying23
    rw [bytes3] at hs
    simp only [lits, List.length_map, List.length_take, List.length_drop, reachBytes] at hs
    have hzl : zs.length = c := by simpa using hz
    refine ⟨some x, l, c, zs.take l, hcs, by simp; omega, ?_, (fun h => by cases h), hl, by omega, fun n hn => bounds_i64 (hwz n (List.mem_of_mem_take hn))⟩
    refine .inr ⟨x, rfl, fun j hj => ?_⟩
    have hj' : j < l := by simp at hj; omega
    rw [hcell j (by omega)]; simp [List.getD, hj']
theorem array5 {α : Type} {cs : Array α} (h : cs.size = 5) : ∃ c0 c1 c2 c3 c4, cs = #[c0, c1, c2, c3, c4] := by
  obtain ⟨l⟩ := cs
  match l, h with
  | [c0, c1, c2, c3, c4], _ => exact ⟨c0, c1, c2, c3, c4, rfl⟩
section
variable {H : Type} {enc : TypeId × Value → H} {P : Program} {w : World} {base : Nat} {spare : Nat → Bool} {held : Bool}
theorem open_agg5 {r : Reach} {b0 : Nat} {t : TypeId} {f0 f1 f2 f3 f4 : Field} {v : Value} {d : DataW H} {p : List MemPlace} (hs : P.underlying t = some (.struct #[f0, f1, f2, f3, f4])) (hone : oneCellFields P #[f0, f1, f2, f3, f4] = true) (hC : P.cellsOf t = 5)
    (hv : Value.okWide P w r b0 t v) (h : DataW.Trod enc P w base spare held t v d p) :
    ∃ (v0 v1 v2 v3 v4 : Value) (y0 y1 y2 y3 y4 : DataW H × List MemPlace) (n : Nat), v = .agg #[v0, v1, v2, v3, v4] ∧ d = .agg [y0.1, y1.1, y2.1, y3.1, y4.1] ∧
      DataW.trod enc P w base spare held n f0.type [v0] = some y0 ∧ DataW.trod enc P w base spare held n f1.type [v1] = some y1 ∧ DataW.trod enc P w base spare held n f2.type [v2] = some y2 ∧ DataW.trod enc P w base spare held n f3.type [v3] = some y3 ∧ DataW.trod enc P w base spare held n f4.type [v4] = some y4 := by
  obtain ⟨cs, rfl, hsz⟩ := okWide_struct hs hv
  obtain ⟨c0, c1, c2, c3, c4, rfl⟩ := array5 (hsz.trans hC)
  obtain ⟨fuel, hf⟩ := h
  obtain ⟨xs, n, _, hx, hl, hlen, hff⟩ := DataW.trod_struct hs hf
  obtain ⟨o0, k0⟩ := hone_of hone 0 f0 rfl
  obtain ⟨o1, k1⟩ := hone_of hone 1 f1 rfl
  obtain ⟨o2, k2⟩ := hone_of hone 2 f2 rfl
  obtain ⟨o3, k3⟩ := hone_of hone 3 f3 rfl
  obtain ⟨o4, k4⟩ := hone_of hone 4 f4 rfl
  match xs, hlen with
  | [y0, y1, y2, y3, y4], _ =>
    simp only [Prod.mk.injEq] at hx
    exact ⟨c0, c1, c2, c3, c4, y0, y1, y2, y3, y4, n, rfl, by simpa using hx.1, by simpa [Value.cells, o0, k0] using hff 0 f0 rfl, by simpa [Value.cells, o1, k1] using hff 1 f1 rfl, by simpa [Value.cells, o2, k2] using hff 2 f2 rfl, by simpa [Value.cells, o3, k3] using hff 3 f3 rfl, by simpa [Value.cells, o4, k4] using hff 4 f4 rfl⟩
end
end Go.Proofs.Ytkmohpdcchpndaa

/-
  The walk of DiskPlaces.
-/
namespace Go.Proofs.Ytkmohpdcchpndaa
open Go.RowKit Go.Maps
set_option linter.unusedVariables false
set_option linter.unusedSimpArgs false
set_option maxRecDepth 100000
/-- a slice of bytes that came in -/
structure Bin (w : World) (a : Option Addr) (n cap : Nat) (zs : List Int) : Prop where
  len : zs.length = n
  has : Has w a zs
  oct : Octets zs
  bare : a = none → cap = 0
  fits : n ≤ cap
  cap : cap ≤ maxLen
theorem Bin.below {w w' : World} {a : Option Addr} {n cap : Nat} {zs : List Int} (h : Bin w a n cap zs) (hb : Below w.heap.size w w') : Bin w' a n cap zs := ⟨h.len, h.has.of_below hb, h.oct, h.bare, h.fits, h.cap⟩
/-- all that came in -/
structure In5 (w : World) (a0 : Option Addr) (n0 c0 : Nat) (Old : List Int) (a1 : Option Addr) (n1 c1 : Nat) (New : List Int) (a4 : Option Addr) (n4 c4 : Nat) (cs : List Int) : Prop where
  old : Bin w a0 n0 c0 Old
  new : Bin w a1 n1 c1 New
  nums : Nums w a4 cs
  nlen : cs.length = n4
  nbare : a4 = none → c4 = 0
  nfew : n4 ≤ 17592186043904
  nrng : ∀ c ∈ cs, -9223372036854775808 ≤ c ∧ c ≤ 9223372036854775807
theorem In5.below {w w' : World} {a0 : Option Addr} {n0 c0 : Nat} {Old : List Int} {a1 : Option Addr} {n1 c1 : Nat} {New : List Int} {a4 : Option Addr} {n4 c4 : Nat} {cs : List Int} (h : In5 w a0 n0 c0 Old a1 n1 c1 New a4 n4 c4 cs) (hb : Below w.heap.size w w') : In5 w' a0 n0 c0 Old a1 n1 c1 New a4 n4 c4 cs :=
  ⟨h.old.below hb, h.new.below hb, h.nums.below hb, h.nlen, h.nbare, h.nfew, h.nrng⟩
/-- the struct's block, and all behind it -/
structure Inp (wB : World) (sb : Nat) (a0 : Option Addr) (n0 c0 : Nat) (Old : List Int) (a1 : Option Addr) (n1 c1 : Nat) (New : List Int) (piece aft : Int) (a4 : Option Addr) (n4 c4 : Nat) (cs : List Int) : Prop where
  blk : wB.heap[sb]? = some (.cells #[.slice a0 n0 c0, .slice a1 n1 c1, .int .i64 piece, .int .i64 aft, .slice a4 n4 c4] 52 (0, 0))
  inp : In5 wB a0 n0 c0 Old a1 n1 c1 New a4 n4 c4 cs
theorem Inp.cells {wB w : World} {sb : Nat} {a0 : Option Addr} {n0 c0 : Nat} {Old : List Int} {a1 : Option Addr} {n1 c1 : Nat} {New : List Int} {piece aft : Int} {a4 : Option Addr} {n4 c4 : Nat} {cs : List Int} (h : Inp wB sb a0 n0 c0 Old a1 n1 c1 New piece aft a4 n4 c4 cs) (hb : Below wB.heap.size wB w) :
    w.cell? ⟨sb, 0, none⟩ = some (.slice a0 n0 c0) ∧ w.cell? ⟨sb, 1, none⟩ = some (.slice a1 n1 c1) ∧ w.cell? ⟨sb, 2, none⟩ = some (.int .i64 piece) ∧ w.cell? ⟨sb, 3, none⟩ = some (.int .i64 aft) ∧ w.cell? ⟨sb, 4, none⟩ = some (.slice a4 n4 c4) := by
  have hk := (hb.block sb (lt_of_block h.blk)).trans h.blk
  refine ⟨?_, ?_, ?_, ?_, ?_⟩ <;> rw [cell_block hk] <;> rfl
theorem arm_all {wB w6 : World} {sb : Nat} {a0 : Option Addr} {n0 c0 : Nat} {Old : List Int} {a1 : Option Addr} {n1 c1 : Nat} {New : List Int} {piece aft : Int} {a4 : Option Addr} {n4 c4 : Nat} {cs : List Int} (h : Inp wB sb a0 n0 c0 Old a1 n1 c1 New piece aft a4 n4 c4 cs) (hd : Dw wB w6 2 (Q0 Old)) (haf : aft ≤ 9223372036854775807) :
    Calls Try.prog 14 #[.slice a4 n4 c4] w6.drew fun e w' => ∃ g cp, e = .returned (.slice (some ⟨g, 0, none⟩) n4 cp) ∧ w'.cell? ⟨sb, 3, none⟩ = some (.int .i64 aft) ∧ w'.cell? ⟨sb, 4, none⟩ = some (.slice a4 n4 c4) ∧
      Calls Try.prog 25 #[.pointer (some ⟨wB.heap.size, 0, none⟩), .int .i64 aft, .slice (some ⟨g, 0, none⟩) n4 cp] w' fun e w2 => e = .returned (.tuple #[]) ∧ w2.cell? ⟨sb, 3, none⟩ = some (.int .i64 aft) ∧ w2.cell? ⟨sb, 4, none⟩ = some (.slice a4 n4 c4) ∧ Dw wB w2 2 (P0 Old cs) := by
  have hd' : Dw wB w6.drew 2 (Q0 Old) := hd.below (Below.refl w6.heap.size w6).drew
  refine (ints_any w6.drew a4 n4 c4 cs h.inp.nlen (h.inp.nums.below hd'.bel) h.inp.nbare h.inp.nfew).mono ?_
  rintro e w7 ⟨g, cp, rfl, hi⟩
  obtain ⟨_, _, _, x3, x4⟩ := h.cells (hd'.below hi.bel).bel
  refine ⟨g, cp, rfl, x3, x4, ?_⟩
  refine (step_arm hd' hi h.inp.nlen h.inp.nrng h.inp.nfew aft haf).mono ?_
  rintro e w8 ⟨rfl, hD⟩
  obtain ⟨_, _, _, y3, y4⟩ := h.cells hD.bel
  exact ⟨rfl, y3, y4, hD⟩
theorem crash_all {wB w : World} {sb : Nat} {a0 : Option Addr} {n0 c0 : Nat} {Old : List Int} {a1 : Option Addr} {n1 c1 : Nat} {New : List Int} {piece aft : Int} {a4 : Option Addr} {n4 c4 : Nat} {cs z : List Int} {bd : Nat} (h : Inp wB sb a0 n0 c0 Old a1 n1 c1 New piece aft a4 n4 c4 cs) (hd : Dw wB w bd (P3 cs z)) (hb : bd < 1000000) :
    Calls Try.prog 14 #[.slice a4 n4 c4] w fun e w' => ∃ g cp, e = .returned (.slice (some ⟨g, 0, none⟩) n4 cp) ∧
      Calls Try.prog 13 #[.pointer (some ⟨wB.heap.size, 0, none⟩), .slice (some ⟨g, 0, none⟩) n4 cp] w' fun e w2 => e = .returned (.tuple #[]) ∧ Dw wB w2 bd (Dead z) := by
  refine (ints_any w a4 n4 c4 cs h.inp.nlen (h.inp.nums.below hd.bel) h.inp.nbare h.inp.nfew).mono ?_
  rintro e w7 ⟨g, cp, rfl, hi⟩
  exact ⟨g, cp, rfl, step_crash hd hb hi h.inp.nlen h.inp.nrng h.inp.nfew⟩
/-- the loop: so much is written, or the power failed -/
def Lps (wB w : World) (Old New cs : List Int) (n1 : Nat) (v : Int) (at_ : Nat) : Prop := (v = 0 ∧ Dw wB w (3 + at_) (P1 Old cs (New.take at_))) ∨ (v = 32 ∧ Dw wB w 100000 (Dead Old))
/-- a piece of the new bytes is written -/
theorem piece_all {wB w : World} {sb : Nat} {a0 : Option Addr} {n0 c0 : Nat} {Old : List Int} {x : Addr} {n1 c1 : Nat} {New : List Int} {piece aft : Int} {a4 : Option Addr} {n4 c4 : Nat} {cs : List Int} (h : Inp wB sb a0 n0 c0 Old (some x) n1 c1 New piece aft a4 n4 c4 cs) (at_ m : Nat) (hd : Dw wB w (3 + at_) (P1 Old cs (New.take at_))) (hm : 0 < m) (ha : at_ + m ≤ n1) (hO : n0 ≤ 4096) (hM : n1 ≤ 4096) :
    Calls Try.prog 20 #[.slice (some (x.add at_)) m (c1 - at_)] w fun e w1 => ∃ g off cp, e = .returned (.slice (some ⟨g, off, none⟩) m cp) ∧
      Calls Try.prog 19 #[.pointer (some ⟨wB.heap.size, 0, none⟩), .string nG, .int .i64 (at_ : Nat), .slice (some ⟨g, off, none⟩) m cp] w1 fun e w2 => ∃ v, e = .returned (.int .i64 v) ∧ Lps wB w2 Old New cs n1 v (at_ + m) := by
  have hN := h.inp.new
  have hl := hN.len
  have hH : Has w (some x) New := hN.has.of_below hd.bel
  have hp : Has w (some (x.add at_)) ((New.drop at_).take m) := by
    rcases hH with ⟨e, _⟩ | ⟨p, e, hc⟩
    · cases e
    · cases e
      refine .inr ⟨_, rfl, fun j hj => ?_⟩
      have hj' : j < m := by simp at hj; omega
      rw [add_add, hc (at_ + j) (by omega)]
      simp [List.getD, hj', List.getElem?_take, List.getElem?_drop]
  have ho : Octets ((New.drop at_).take m) := fun j => by
    by_cases hj : j < m
    · have := hN.oct (at_ + j)
      simpa [List.getD, hj, List.getElem?_take, List.getElem?_drop] using this
    · simp [List.getD, List.getElem?_take, hj]
  have hlen : ((New.drop at_).take m).length = m := by simp; omega
  have htl : (New.take at_).length = at_ := by simp; omega
  refine (lent_any w _ m (c1 - at_) _ hlen hp ho (fun e => by cases e) (by omega)).mono ?_
  rintro e w1 ⟨g, off, cp, rfl, hh, _, hb⟩
  refine ⟨g, off, cp, rfl, ?_⟩
  have hw := step_write (hd.below hb) (by omega) (some ⟨g, off, none⟩) m cp _ hlen (fun e => by cases e) hh ho (by rw [htl]; omega) (by rw [h.inp.old.len]; exact hO)
  rw [htl] at hw
  refine Calls.mono hw ?_
  rintro e w2 ⟨v, rfl, hv⟩
  refine ⟨v, rfl, ?_⟩
  have e2 : New.take at_ ++ (New.drop at_).take m = New.take (at_ + m) := by rw [List.take_add]
  rw [e2] at hv
  exact hv.imp (fun ⟨e, q⟩ => ⟨e, q.imp (fun _ h => h) (by omega)⟩) (fun ⟨e, q⟩ => ⟨e, q.imp (fun _ h => h) (by omega)⟩)
/-- the end: the power is back, and f is read -/
theorem tail_all {wB w : World} {sb : Nat} {a0 : Option Addr} {n0 c0 : Nat} {Old : List Int} {a1 : Option Addr} {n1 c1 : Nat} {New : List Int} {piece aft : Int} {a4 : Option Addr} {n4 c4 : Nat} {cs b : List Int} {bd : Nat} (h : Inp wB sb a0 n0 c0 Old a1 n1 c1 New piece aft a4 n4 c4 cs) (hd : Dw wB w bd (Dead b)) (hb : bd < 1000000) :
    Calls Try.prog 15 #[.pointer (some ⟨wB.heap.size, 0, none⟩)] w fun e w1 => e = .returned (.bool true) ∧ Calls Try.prog 16 #[.pointer (some ⟨wB.heap.size, 0, none⟩)] w1 fun e w2 => e = .returned (.tuple #[]) ∧ Calls Try.prog 12 #[.pointer (some ⟨wB.heap.size, 0, none⟩), .string nF] w2 fun e w3 => ∃ ab nb cb, e = .returned (.tuple #[.slice ab nb cb, .int .i64 0]) ∧
      (convert 32 9 (.slice ab nb cb)).run Try.prog w3 = .ok (.string (bstr b)) w3 ∧ (convert 32 9 (.slice a0 n0 c0)).run Try.prog w3 = .ok (.string (bstr Old)) w3 ∧ (convert 32 9 (.slice a1 n1 c1)).run Try.prog w3 = .ok (.string (bstr New)) w3 ∧ w3.cell? ⟨sb, 0, none⟩ = some (.slice a0 n0 c0) ∧ w3.cell? ⟨sb, 1, none⟩ = some (.slice a1 n1 c1) ∧ Below wB.heap.size wB w3 := by
  obtain ⟨h1, h2⟩ := step_up hd hb
  refine h1.mono ?_
  rintro e w1 ⟨rfl, rfl⟩
  refine ⟨rfl, h2.mono ?_⟩
  rintro e w2 ⟨rfl, h3⟩
  refine ⟨rfl, h3.mono ?_⟩
  rintro e w3 ⟨v, rfl, hB, hbl⟩
  obtain ⟨ab, cb, rfl, _, hh, _⟩ := hB.form
  obtain ⟨x0, x1, _⟩ := h.cells hbl
  exact ⟨ab, _, cb, rfl, str_of w3 ab _ cb b rfl hh, str_of w3 a0 n0 c0 Old h.inp.old.len (h.inp.old.has.of_below hbl), str_of w3 a1 n1 c1 New h.inp.new.len (h.inp.new.has.of_below hbl), x0, x1, hbl⟩
theorem fin_all {w wB wv : World} (h1 : Hid (Below w.heap.size w wB)) (h2 : Hid (Below wB.heap.size wB wv)) : (Ending.returned (.bool true) : Ending) = .returned (.bool true) ∧ Below w.heap.size w wv := ⟨rfl, h1.out.trans (h2.out.mono h1.out.size)⟩
set_option maxHeartbeats 4000000 in
theorem places_any (w : World) (a0 : Option Addr) (n0 c0 : Nat) (Old : List Int) (a1 : Option Addr) (n1 c1 : Nat) (New : List Int) (piece aft : Int) (a4 : Option Addr) (n4 c4 : Nat) (cs : List Int) (h : In5 w a0 n0 c0 Old a1 n1 c1 New a4 n4 c4 cs) (hpc : -9223372036854775808 ≤ piece ∧ piece ≤ 9223372036854775807) (haf : -9223372036854775808 ≤ aft ∧ aft ≤ 9223372036854775807) (hn0 : n0 ≤ 140737488351232) (hn1 : n1 ≤ 140737488351232) :
    Calls Try.prog 5 #[.agg #[.slice a0 n0 c0, .slice a1 n1 c1, .int .i64 piece, .int .i64 aft, .slice a4 n4 c4]] w fun e w' => e = .returned (.bool true) ∧ Below w.heap.size w w' := by
  have H5 := hide2 h
  clear h
  go_enter Try.func5, Try.ntmps5
  go_wp2_with fail
  refine Calls.mono (awake_any _) ?_
  rintro e wB ⟨rfl, hb⟩
  have HBW := hide2 (((Below.refl _ w).alloc (Nat.le_refl _) (.cells #[.slice a0 n0 c0, .slice a1 n1 c1, .int .i64 piece, .int .i64 aft, .slice a4 n4 c4] 52 (0, 0))).trans (hb.mono (by simp)))
  have HI : Hid (Inp wB w.heap.size a0 n0 c0 Old a1 n1 c1 New piece aft a4 n4 c4 cs) := ⟨(hb.block _ (by simp)).trans (Go.heap_alloc_new w _), H5.out.below HBW.out⟩
  obtain ⟨x0, x1, x2, x3, x4⟩ := HI.out.cells (Below.refl _ wB)
  obtain ⟨sb, hsb⟩ : ∃ sb, w.heap.size = sb := ⟨_, rfl⟩
  rw [hsb] at HI x0 x1 x2 x3 x4
  rw [hsb]
  clear hb H5
  by_cases hO : 4096 < n0
  · go_wp2
    go_ret
    rw [← hsb]
    exact ⟨rfl, HBW.out⟩
  by_cases hM : 4096 < n1
  · go_wp2
    go_ret
    rw [← hsb]
    exact ⟨rfl, HBW.out⟩
  have HN := hide2 (one_new 65536 wB (by omega) nF nm_f)
  go_wp2_with fail
  refine Calls.mono HN.out ?_
  rintro e w1 ⟨rfl, hb1, hc⟩
  have HC := hide2 hc
  clear hc hb1 HN x0 x1 x2 x3 x4
  go_wp2_with fail
  refine Calls.mono HC.out ?_
  rintro e w2 ⟨v, rfl, hv, own2, hO2, hb2, hlow2⟩
  subst hv
  obtain ⟨x0, _⟩ := HI.out.cells hb2
  have HO2 := hide2 hO2
  have HB2 := hide2 hb2
  have HL2 := hide2 hlow2
  clear hO2 hb2 hlow2 HC
  go_wp2_with fail
  refine Calls.mono (lent_any w2 a0 n0 c0 Old HI.out.inp.old.len (HI.out.inp.old.has.of_below HB2.out) HI.out.inp.old.oct HI.out.inp.old.bare hn0) ?_
  rintro e w3 ⟨g3, o3, c3, rfl, hh3, hg3, hb3⟩
  have HH3 := hide2 hh3
  have HB3 := hide2 hb3
  clear hh3 hb3 x0
  go_wp2_with fail
  refine Calls.mono (one_write (HO2.out.below HB3.out) (by omega) nm_f 0 (Nat.zero_le _) (some ⟨g3, o3, none⟩) n0 c3 Old HI.out.inp.old.len (fun h => by cases h) HH3.out HI.out.inp.old.oct (by omega) (by omega)) ?_
  rintro e w4 ⟨v, rfl, hv, own4, hO4, hf4⟩
  subst hv
  have HO4 : Hid (OneR w4 wB.heap.size wB.heap.size nF 65536 ⟨[], [.wr 0 Old], Old⟩ False 2 own4) := by
    have e : over [] 0 Old = Old := by simp [over]
    rw [e] at hO4
    exact hO4
  have HF4 := hide2 (fr_low ((Fr.below HB3.out own2).trans hf4) HL2.out HB2.out)
  clear hO4 hf4 HO2 HB2 HL2 HB3 HH3
  go_wp2_with fail
  refine Calls.mono (one_sync HO4.out (by omega) nm_f) ?_
  rintro e w5 ⟨v, rfl, hv, own5, hO5, hf5⟩
  subst hv
  have HO5 := hide2 hO5
  have HF5 := hide2 (fr_low hf5 HF4.out.1 HF4.out.2)
  clear hO5 hf5 HO4 HF4
  go_wp2_with fail
  refine Calls.mono (one_syncdir HO5.out (by omega)) ?_
  rintro e w6 ⟨v, rfl, hv, own6, hO6, hf6⟩
  subst hv
  have HD6 : Hid (Dw wB w6 2 (Q0 Old)) := by
    obtain ⟨q1, q2⟩ := fr_low hf6 HF5.out.1 HF5.out.2
    exact one_dw hO6 q1 q2
  clear hO6 hf6 HO5 HF5
  obtain ⟨_, _, _, x3, x4⟩ := HI.out.cells HD6.out.bel
  have HA : Hid (Calls Try.prog 14 #[.slice a4 n4 c4] w6.drew fun e w' => ∃ g cp, e = .returned (.slice (some ⟨g, 0, none⟩) n4 cp) ∧ w'.cell? ⟨sb, 3, none⟩ = some (.int .i64 aft) ∧ w'.cell? ⟨sb, 4, none⟩ = some (.slice a4 n4 c4) ∧
      Calls Try.prog 25 #[.pointer (some ⟨wB.heap.size, 0, none⟩), .int .i64 aft, .slice (some ⟨g, 0, none⟩) n4 cp] w' fun e w2 => e = .returned (.tuple #[]) ∧ w2.cell? ⟨sb, 3, none⟩ = some (.int .i64 aft) ∧ w2.cell? ⟨sb, 4, none⟩ = some (.slice a4 n4 c4) ∧ Dw wB w2 2 (P0 Old cs)) := arm_all HI.out HD6.out haf.2
  go_wp2_with fail
  go_region_held3 (fun w' => w'.cell? ⟨sb, 3, none⟩ = some (.int .i64 aft) ∧ w'.cell? ⟨sb, 4, none⟩ = some (.slice a4 n4 c4)) (go_keep) (first | (go_at_call 14; refine HA.out.mono ?_; rintro ex w7 ⟨g7, cp7, rfl, y3, y4, hc⟩; have HC7 := hide2 hc; clear hc) | (go_at_call 25; refine HC7.out.mono ?_; rintro ex w8 ⟨rfl, z3, z4, hc⟩; have HD8 := hide2 hc; clear hc))
  clear HA HC7 HD6 x3 x4 y3 y4 z3 z4
  go_wp2_with fail
  refine Calls.mono (step_create HD8.out (by omega)) ?_
  rintro e w9 ⟨v9, rfl, hv9⟩
  have HL9 : Hid (Lps wB w9 Old New cs n1 v9 0) := hv9.imp (fun ⟨e, h⟩ => ⟨e, by simpa using h⟩) (fun ⟨e, h⟩ => ⟨e, h.imp (fun _ h => h) (by omega)⟩)
  clear hv9 HD8
  go_wp2_with fail
  go_loopw [4, 5, 6] (fun t4 t5 t6 wr => ∃ (v : Int) (at_ : Nat), t4 = .int .i64 v ∧ t5 = .int .i64 at_ ∧ at_ ≤ n1 ∧ Hid (Lps wB wr Old New cs n1 v at_)) (fun t4 t5 t6 _ => n1 - (intOf t5).toNat)
  case atStart => exact ⟨v9, 0, rfl, rfl, by omega, HL9⟩
  case round =>
    obtain ⟨v, at_, rfl, rfl, hat, HL⟩ := hrel
    clear HL9
    rcases HL.out with ⟨rfl, hD⟩ | ⟨rfl, hD⟩
    · have HD := hide2 hD
      clear hD HL
      obtain ⟨_, x1, x2, _⟩ := HI.out.cells HD.out.bel
      by_cases hlt : at_ < n1
      · obtain ⟨x, rfl⟩ : ∃ x, a1 = some x := by
          have hl := HI.out.inp.new.len
          rcases HI.out.inp.new.has with ⟨_, e⟩ | ⟨p, e, hc⟩
          · rw [e] at hl; simp at hl; omega
          · exact ⟨p, e⟩
        obtain ⟨r, hr, hr1⟩ : ∃ r : Nat, rnd piece 100 = (r : Int) ∧ r < 100 := by
          have := rnd_range piece 100 (by omega)
          exact ⟨(rnd piece 100).toNat, by omega, by omega⟩
        have HR := hide2 (round_any wr piece 100 (by omega) (by omega) hpc)
        rw [hr] at HR
        have hc1 : n1 ≤ c1 ∧ c1 ≤ 9223372036854775807 := ⟨HI.out.inp.new.fits, HI.out.inp.new.cap⟩
        have hlt' : (at_ : Int) < n1 := by omega
        clear hr
        by_cases hg : n1 < at_ + 1 + r
        · have HP := hide2 (piece_all HI.out at_ (n1 - at_) HD.out (by omega) (by omega) (by omega) (by omega))
          have hg' : (n1 : Int) - at_ < 1 + r := by omega
          go_wp2_with (first | (go_at_call 24; refine HR.out.mono ?_; rintro ex wr ⟨rfl, rfl⟩))
          refine Calls.mono HP.out ?_
          rintro ex wa ⟨ga, oa, ca, rfl, hc⟩
          have HP2 := hide2 hc
          clear hc HP HR x1 x2
          go_wp2_with fail
          refine Calls.mono HP2.out ?_
          rintro ex wb ⟨vb, rfl, hl⟩
          have HLb := hide2 hl
          clear hl HP2 HD
          go_wp2_with fail
          go_roundw
          case rel => exact ⟨vb, at_ + (n1 - at_), rfl, by go_num, by omega, HLb⟩
          case measure => simp [intOf]; omega
        · have HP := hide2 (piece_all HI.out at_ (1 + r) HD.out (by omega) (by omega) (by omega) (by omega))
          have hg' : ¬ (n1 : Int) - at_ < 1 + r := by omega
          go_wp2_with (first | (go_at_call 24; refine HR.out.mono ?_; rintro ex wr ⟨rfl, rfl⟩))
          refine Calls.mono HP.out ?_
          rintro ex wa ⟨ga, oa, ca, rfl, hc⟩
          have HP2 := hide2 hc
          clear hc HP HR x1 x2
          go_wp2_with fail
          refine Calls.mono HP2.out ?_
          rintro ex wb ⟨vb, rfl, hl⟩
          have HLb := hide2 hl
          clear hl HP2 HD
          go_wp2_with fail
          go_roundw
          case rel => exact ⟨vb, at_ + (1 + r), rfl, by go_num, by omega, HLb⟩
          case measure => simp [intOf]; omega
      · have hlt' : ¬ (at_ : Int) < n1 := by omega
        obtain rfl : at_ = n1 := by omega
        have e : New.take at_ = New := by rw [List.take_of_length_le]; rw [HI.out.inp.new.len]; exact Nat.le_refl _
        rw [e] at HD
        clear x2 hpc hn0 hn1 e
        go_wp2_with fail
        clear x1
        refine Calls.mono (step_sync HD.out (by omega)) ?_
        rintro ex ws ⟨vs, rfl, ⟨rfl, hD⟩ | ⟨rfl, hD⟩⟩
        · have HDs := hide2 hD
          clear hD HD
          go_wp2_with fail
          refine Calls.mono (step_rename HDs.out (by omega)) ?_
          rintro ex wn ⟨vs, rfl, ⟨rfl, hD⟩ | ⟨rfl, hD | hD⟩⟩
          · have HDn := hide2 hD
            clear hD HDs
            go_wp2_with fail
            refine Calls.mono (step_syncdir HDn.out (by omega)) ?_
            rintro ex wd ⟨vs, rfl, ⟨rfl, hD⟩ | ⟨rfl, hD | hD⟩⟩
            · have HDd := hide2 hD
              have HCr := hide2 (crash_all HI.out hD (by omega))
              obtain ⟨_, _, _, _, x4⟩ := HI.out.cells HDd.out.bel
              clear hD HDn HDd
              go_wp2_with fail
              refine Calls.mono HCr.out ?_
              rintro ex wi ⟨gi, ci, rfl, hc⟩
              have HC2 := hide2 hc
              clear hc HCr x4
              go_wp2_with fail
              refine Calls.mono HC2.out ?_
              rintro ex wk ⟨rfl, hD⟩
              have HDk := hide2 hD
              clear hD HC2
              have HT := hide2 (tail_all HI.out HDk.out (by omega))
              clear HDk
              go_wp2_with fail
              refine Calls.mono HT.out ?_
              rintro ex wt ⟨rfl, hc⟩
              have HT2 := hide2 hc
              clear hc HT
              go_wp2_with fail
              refine Calls.mono HT2.out ?_
              rintro ex wu ⟨rfl, hc⟩
              have HT3 := hide2 hc
              clear hc HT2
              go_wp2_with fail
              refine Calls.mono HT3.out ?_
              rintro ex wv ⟨ab, nb, cb, rfl, s1, s2, s3, x0, x1, hbl⟩
              have HBL := hide2 hbl
              clear hbl HT3
              generalize bstr Old = X at s1 s2 s3
              generalize bstr New = Y at s1 s2 s3
              go_wp2
              all_goals (go_ret; exact fin_all HBW HBL)
            · have HDd := hide2 hD
              clear hD HDn
              have HT := hide2 (tail_all HI.out HDd.out (by omega))
              clear HDd
              go_wp2_with fail
              refine Calls.mono HT.out ?_
              rintro ex wt ⟨rfl, hc⟩
              have HT2 := hide2 hc
              clear hc HT
              go_wp2_with fail
              refine Calls.mono HT2.out ?_
              rintro ex wu ⟨rfl, hc⟩
              have HT3 := hide2 hc
              clear hc HT2
              go_wp2_with fail
              refine Calls.mono HT3.out ?_
              rintro ex wv ⟨ab, nb, cb, rfl, s1, s2, s3, x0, x1, hbl⟩
              have HBL := hide2 hbl
              clear hbl HT3
              generalize bstr Old = X at s1 s2 s3
              generalize bstr New = Y at s1 s2 s3
              go_wp2
              all_goals (go_ret; exact fin_all HBW HBL)
            · have HDd := hide2 hD
              clear hD HDn
              have HT := hide2 (tail_all HI.out HDd.out (by omega))
              clear HDd
              go_wp2_with fail
              refine Calls.mono HT.out ?_
              rintro ex wt ⟨rfl, hc⟩
              have HT2 := hide2 hc
              clear hc HT
              go_wp2_with fail
              refine Calls.mono HT2.out ?_
              rintro ex wu ⟨rfl, hc⟩
              have HT3 := hide2 hc
              clear hc HT2
              go_wp2_with fail
              refine Calls.mono HT3.out ?_
              rintro ex wv ⟨ab, nb, cb, rfl, s1, s2, s3, x0, x1, hbl⟩
              have HBL := hide2 hbl
              clear hbl HT3
              generalize bstr Old = X at s1 s2 s3
              generalize bstr New = Y at s1 s2 s3
              by_cases hXY : Y = X
              · subst hXY
                go_wp2
                all_goals (go_ret; exact fin_all HBW HBL)
              · go_wp2
                all_goals (go_ret; exact fin_all HBW HBL)
          · have HDn := hide2 hD
            clear hD HDs
            have HT := hide2 (tail_all HI.out HDn.out (by omega))
            clear HDn
            go_wp2_with fail
            refine Calls.mono HT.out ?_
            rintro ex wt ⟨rfl, hc⟩
            have HT2 := hide2 hc
            clear hc HT
            go_wp2_with fail
            refine Calls.mono HT2.out ?_
            rintro ex wu ⟨rfl, hc⟩
            have HT3 := hide2 hc
            clear hc HT2
            go_wp2_with fail
            refine Calls.mono HT3.out ?_
            rintro ex wv ⟨ab, nb, cb, rfl, s1, s2, s3, x0, x1, hbl⟩
            have HBL := hide2 hbl
            clear hbl HT3
            generalize bstr Old = X at s1 s2 s3
            generalize bstr New = Y at s1 s2 s3
            go_wp2
            all_goals (go_ret; exact fin_all HBW HBL)
          · have HDn := hide2 hD
            clear hD HDs
            have HT := hide2 (tail_all HI.out HDn.out (by omega))
            clear HDn
            go_wp2_with fail
            refine Calls.mono HT.out ?_
            rintro ex wt ⟨rfl, hc⟩
            have HT2 := hide2 hc
            clear hc HT
            go_wp2_with fail
            refine Calls.mono HT2.out ?_
            rintro ex wu ⟨rfl, hc⟩
            have HT3 := hide2 hc
            clear hc HT2
            go_wp2_with fail
            refine Calls.mono HT3.out ?_
            rintro ex wv ⟨ab, nb, cb, rfl, s1, s2, s3, x0, x1, hbl⟩
            have HBL := hide2 hbl
            clear hbl HT3
            generalize bstr Old = X at s1 s2 s3
            generalize bstr New = Y at s1 s2 s3
            by_cases hXY : Y = X
            · subst hXY
              go_wp2
              all_goals (go_ret; exact fin_all HBW HBL)
            · go_wp2
              all_goals (go_ret; exact fin_all HBW HBL)
        · have HDs := hide2 hD
          clear hD HD
          have HT := hide2 (tail_all HI.out HDs.out (by omega))
          clear HDs
          go_wp2_with fail
          refine Calls.mono HT.out ?_
          rintro ex wt ⟨rfl, hc⟩
          have HT2 := hide2 hc
          clear hc HT
          go_wp2_with fail
          refine Calls.mono HT2.out ?_
          rintro ex wu ⟨rfl, hc⟩
          have HT3 := hide2 hc
          clear hc HT2
          go_wp2_with fail
          refine Calls.mono HT3.out ?_
          rintro ex wv ⟨ab, nb, cb, rfl, s1, s2, s3, x0, x1, hbl⟩
          have HBL := hide2 hbl
          clear hbl HT3
          generalize bstr Old = X at s1 s2 s3
          generalize bstr New = Y at s1 s2 s3
          go_wp2
          all_goals (go_ret; exact fin_all HBW HBL)
    · have HDs := hide2 hD
      clear hD HL
      have HT := hide2 (tail_all HI.out HDs.out (by omega))
      clear HDs
      go_wp2_with fail
      refine Calls.mono HT.out ?_
      rintro ex wt ⟨rfl, hc⟩
      have HT2 := hide2 hc
      clear hc HT
      go_wp2_with fail
      refine Calls.mono HT2.out ?_
      rintro ex wu ⟨rfl, hc⟩
      have HT3 := hide2 hc
      clear hc HT2
      go_wp2_with fail
      refine Calls.mono HT3.out ?_
      rintro ex wv ⟨ab, nb, cb, rfl, s1, s2, s3, x0, x1, hbl⟩
      have HBL := hide2 hbl
      clear hbl HT3
      generalize bstr Old = X at s1 s2 s3
      generalize bstr New = Y at s1 s2 s3
      go_wp2
      all_goals (go_ret; exact fin_all HBW HBL)
end Go.Proofs.Ytkmohpdcchpndaa

/-
  Whatever old and new bytes, pieces, place and choices are handed in: new bytes come into the place of old ones whole, or not at all; no condition.
-/
namespace Go.Proofs.Ytkmohpdcchpndaa
open Go.ChangeShapes Go.WideShapes Go.ChangeAt Go.RowKit
set_option linter.unusedVariables false
set_option linter.unusedSimpArgs false
theorem InB.bin {W : World} {v : Value} {a : Option Addr} {n c : Nat} {zs : List Int} (h : InB W v a n c zs) : Bin W a n c zs := ⟨h.len, h.has, h.oct, h.bare, h.fits, h.cap⟩
set_option maxRecDepth 100000 in
theorem diskPlaces_lifted (os : Os) (started : os.Started) (H : Type) (enc : TypeId × Value → H) :
    ReturnsInHanded {} Try.checked os 5 .any (Rows.diskPlacesSpec.pre6 enc Try.prog Try.f5 Rows.diskPlacesRow.domain false) (Rows.diskPlacesSpec.post enc Try.prog Try.f5 false true false false) := by
  refine returnsInHanded_of_change_sized (C := Try.checked) own started (by kernel_rfl) Try.func5
    (ChangeSpec.witness6 (enc := enc) (C := Try.checked) false ⟨#[], #[.agg #[.slice none 0 0, .slice none 0 0, .int .i64 0, .int .i64 0, .slice none 0 0]], []⟩ 8 (by kernel_rfl) (by kernel_rfl) (by kernel_rfl) (by kernel_rfl)) ?_
  intro W base args ds gs before hval0 hW _ hsz0 _
  have hsz : (DataW.weightsEach Try.prog (Try.f5.params.toList ++ Rows.diskPlacesSpec.plain.varTypes Try.prog) (ds ++ gs)).all (· ≤ reachBytes) = true := hsz0
  clear hsz0
  have hval : ∀ (j : Nat) t v, Try.f5.params[j]? = some t → args[j]? = some v → Value.okWide Try.prog W .any base t v := hval0
  have hW' := hW
  obtain ⟨p, q, hA0, hV, rfl, hfz, hnd⟩ := hW
  have hA : DataW.TrodAll enc Try.prog W 0 (fun _ => true) true Try.f5.params.toList args.toList ds p := hA0
  rw [Try.params5] at hA hval hsz
  obtain ⟨v0, vs0, d0, ds0, p0, q0, hargs, rfl, rfl, h0, r0⟩ := trodAll_cons hA
  obtain ⟨rfl, rfl, rfl⟩ := trodAll_nil r0
  obtain rfl : args = #[v0] := by cases args; simp_all
  obtain ⟨rfl, rfl⟩ := trodVars_none hV
  have k0 := h0
  have lt0 : ∀ x ∈ p0, x.block < W.heap.size := by obtain ⟨m, hm⟩ := k0; exact DataW.trod_lt m _ _ _ hm
  obtain ⟨u0, u1, u2, u3, u4, y0, y1, y2, y3, y4, m, rfl, rfl, g0, g1, g2, g3, g4⟩ := open_agg5 Try.underlying52 (by kernel_rfl) (by kernel_rfl) (hval 0 52 v0 rfl rfl) h0
  have hs5 : (DataW.weightsEach Try.prog [32, 32, 3, 3, 23] [y0.1, y1.1, y2.1, y3.1, y4.1]).all (· ≤ reachBytes) = true := by
    rw [List.all_eq_true] at hsz ⊢
    intro n hn
    refine hsz n ?_
    exact DataW.weights_mem_each (j := 0) (t := 52) (d := .agg [y0.1, y1.1, y2.1, y3.1, y4.1]) rfl rfl n (by rw [DataW.weights, Try.underlying52]; exact hn)
  obtain ⟨a0, n0, c0, Old, B0⟩ := open_bytes g0 (j := 0) hs5 rfl rfl
  obtain ⟨a1, n1, c1, New, B1⟩ := open_bytes g1 (j := 1) hs5 rfl rfl
  obtain ⟨piece, e2, _, w2⟩ := DataW.trod_int Try.underlying3 g2
  obtain ⟨aft, e3, _, w3⟩ := DataW.trod_int Try.underlying3 g3
  obtain ⟨a4, n4, c4, cs, B4⟩ := open_nums g4 (j := 4) hs5 rfl rfl
  have b2 := bounds_i64 w2
  have b3 := bounds_i64 w3
  obtain rfl := B0.val
  obtain rfl := B1.val
  obtain rfl := B4.val
  obtain rfl : u2 = .int .i64 piece := by simpa using e2
  obtain rfl : u3 = .int .i64 aft := by simpa using e3
  clear hA0 hval0
  have f0 := B0.few; have f1 := B1.few; have f4 := B4.few
  have t0 := B0.fits; have t1 := B1.fits; have t4 := B4.fits
  refine (places_any W a0 n0 c0 Old a1 n1 c1 New piece aft a4 n4 c4 cs ⟨B0.bin, B1.bin, B4.has, B4.len, B4.bare, by omega, B4.rng⟩ ⟨b2.1, by omega⟩ ⟨b3.1, by omega⟩ (by omega) (by omega)).mono fun e W' ⟨he, bel⟩ => ?_
  subst he
  exact ⟨_, rfl, _, _, _, [], _, [], hW', trodAll_mk1 (shut_bool Try.underlying4 _), (trodAll_cons_mk (Below.trod laidOut (by kernel_rfl) (of_decide_eq_true (by kernel_rfl)) k0 bel lt0) trodAll_mk0), rfl, bel.frame _, fun h => by cases h⟩

theorem diskPlaces_holds : Rows.DiskPlacesSaid :=
  OpenClaim.holds_of_wide 5 Try.f5 rfl rfl rfl rfl rfl rfl rfl ⟨rfl, rfl, rfl, rfl, rfl⟩ rfl rfl rfl rfl rfl (by kernel_rfl) Try.func5 (by kernel_rfl)
    (of_decide_eq_true (by kernel_rfl)) (by unfold Func.isWrapper; first | (rw [if_pos (by decide +kernel)]; kernel_rfl) | (rw [if_neg (by decide +kernel)]; exact ⟨rfl, rfl⟩))
    (fun os started H enc _ => diskPlaces_lifted os started H enc)
#print axioms diskPlaces_holds
end Go.Proofs.Ytkmohpdcchpndaa
