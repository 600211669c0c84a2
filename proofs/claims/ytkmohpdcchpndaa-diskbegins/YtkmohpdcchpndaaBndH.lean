import Derived.Test.YtkmohpdcchpndaaBase
import Derived.ProofKit
import Derived.ChangeOld
import Derived.JoinedCond
import Derived.SizedLaws
import Derived.Lib.SmallJoins
import Derived.Test.YtkmohpdcchpndaaBndE
import Derived.BigQuiet
import Derived.Deep.RegionHeld3
import Derived.Deep.DeepCutAuto
/-
  What the rows' frames share: bytes and numbers that came in, a struct of five, opened.
-/
namespace Go.Proofs.Ytkmohpdcchpndaa
open Go.ChangeShapes Go.WideShapes Go.ChangeAt Go.RowKit Go.Deep
set_option linter.unusedVariables false
set_option linter.unusedSimpArgs false
theorem own : ownKnob Try.prog.godebug = none := by kernel_rfl
theorem laidOut : laidOutB Try.prog = true := by kernel_rfl
theorem bytes5 : Try.prog.bytesOf 5 = 1 := by kernel_rfl
theorem bytes3 : Try.prog.bytesOf 3 = 8 := by kernel_rfl
theorem octets_of_wf {zs : List Int} (h : ∀ n ∈ zs, (Lit.int .u8 n).wf = true) : Octets zs := fun i => by
  by_cases hi : i < zs.length
  · have := bounds_u8 (h zs[i] (List.getElem_mem hi))
    simp [hi]; omega
  · simp [Nat.le_of_not_lt hi]
/-- a slice of bytes, opened -/
structure InB (W : World) (v : Value) (a : Option Addr) (n c : Nat) (zs : List Int) : Prop where
  val : v = .slice a n c
  len : zs.length = n
  has : Has W a zs
  oct : Octets zs
  bare : a = none → c = 0
  fits : n ≤ c
  cap : c ≤ maxLen
  few : c ≤ 140737488351232
theorem open_bytes {H : Type} {enc : TypeId × Value → H} {W : World} {fuel : Nat} {v : Value} {y : DataW H × List MemPlace} {ts : List TypeId} {ds : List (DataW H)} {j : Nat}
    (hf : DataW.trod enc Try.prog W 0 (fun _ => true) true fuel 32 [v] = some y) (hsz : (DataW.weightsEach Try.prog ts ds).all (· ≤ reachBytes) = true) (ht : ts[j]? = some 32) (hd : ds[j]? = some y.1) :
    ∃ a len cap zs, InB W v a len cap zs := by
  rcases open_ints Try.underlying32 Try.underlying5 (by kernel_rfl) hf with ⟨hcs, _⟩ | ⟨x, l, c, zs, hcs, _, hl, hm, hz, hx, hcell, hwz⟩
  · simp at hcs
    exact ⟨none, 0, 0, [], hcs, rfl, .inl ⟨rfl, rfl⟩, fun j => by simp, fun _ => rfl, Nat.le_refl _, Nat.zero_le _, Nat.zero_le _⟩
  · simp at hcs
    subst hx
    have hs := sized_slice hsz (j := j) (t := 32) (e := 5) ht hd Try.underlying32
    rw [bytes5] at hs
    simp only [lits, List.length_map, List.length_take, List.length_drop, reachBytes] at hs
    have hzl : zs.length = c := by simpa using hz
    refine ⟨some x, l, c, zs.take l, hcs, by simp; omega, ?_, (octets_of_wf hwz).take l, (fun h => by cases h), hl, hm, by omega⟩
    refine .inr ⟨x, rfl, fun j hj => ?_⟩
    have hj' : j < l := by simp at hj; omega
    rw [hcell j (by omega)]; simp [List.getD, hj']
/-- a slice of numbers, opened -/
structure InN (W : World) (v : Value) (a : Option Addr) (n c : Nat) (cs : List Int) : Prop where
  val : v = .slice a n c
  len : cs.length = n
  has : (a = none ∧ cs = []) ∨ ∃ x, a = some x ∧ ∀ j, j < cs.length → W.cell? (x.add j) = some (.int .i64 (cs.getD j 0))
  bare : a = none → c = 0
  fits : n ≤ c
  few : c ≤ 17592186043904
  rng : ∀ c ∈ cs, -9223372036854775808 ≤ c ∧ c ≤ 9223372036854775807
theorem open_nums {H : Type} {enc : TypeId × Value → H} {W : World} {fuel : Nat} {v : Value} {y : DataW H × List MemPlace} {ts : List TypeId} {ds : List (DataW H)} {j : Nat}
    (hf : DataW.trod enc Try.prog W 0 (fun _ => true) true fuel 23 [v] = some y) (hsz : (DataW.weightsEach Try.prog ts ds).all (· ≤ reachBytes) = true) (ht : ts[j]? = some 23) (hd : ds[j]? = some y.1) :
    ∃ a len cap cs, InN W v a len cap cs := by
  rcases open_ints Try.underlying23 Try.underlying3 (by kernel_rfl) hf with ⟨hcs, _⟩ | ⟨x, l, c, zs, hcs, _, hl, hm, hz, hx, hcell, hwz⟩
  · simp at hcs
    exact ⟨none, 0, 0, [], hcs, rfl, .inl ⟨rfl, rfl⟩, fun _ => rfl, Nat.le_refl _, Nat.zero_le _, fun c hc => by cases hc⟩
  · simp at hcs
    subst hx
    have hs := sized_slice hsz (j := j) (t := 23) (e := 3) ht hd Try.underlying23
    rw [bytes3] at hs
    simp only [lits, List.length_map, List.length_take, List.length_drop, reachBytes] at hs
    have hzl : zs.length = c := by simpa using hz
    refine ⟨some x, l, c, zs.take l, hcs, by simp; omega, ?_, (fun h => by cases h), hl, by omega, fun n hn => bounds_i64 (hwz n (List.mem_of_mem_take hn))⟩
    refine .inr ⟨x, rfl, fun j hj => ?_⟩
    have hj' : j < l := by simp at hj; omega
    rw [hcell j (by omega)]; simp [List.getD, hj']
theorem array5 {α : Type} {cs : Array α} (h : cs.size = 5) : ∃ c0 c1 c2 c3 c4, cs = #[c0, c1, c2, c3, c4] := by
  obtain ⟨l⟩ := cs
  match l, h with
  | [c0, c1, c2, c3, c4], _ => exact ⟨c0, c1, c2, c3, c4, rfl⟩
section
variable {H : Type} {enc : TypeId × Value → H} {P : Program} {w : World} {base : Nat} {spare : Nat → Bool} {held : Bool}
theorem open_agg5 {r : Reach} {b0 : Nat} {t : TypeId} {f0 f1 f2 f3 f4 : Field} {v : Value} {d : DataW H} {p : List MemPlace} (hs : P.underlying t = some (.struct #[f0, f1, f2, f3, f4])) (hone : oneCellFields P #[f0, f1, f2, f3, f4] = true) (hC : P.cellsOf t = 5)
    (hv : Value.okWide P w r b0 t v) (h : DataW.Trod enc P w base spare held t v d p) :
    ∃ (v0 v1 v2 v3 v4 : Value) (y0 y1 y2 y3 y4 : DataW H × List MemPlace) (n : Nat), v = .agg #[v0, v1, v2, v3, v4] ∧ d = .agg [y0.1, y1.1, y2.1, y3.1, y4.1] ∧
      DataW.trod enc P w base spare held n f0.type [v0] = some y0 ∧ DataW.trod enc P w base spare held n f1.type [v1] = some y1 ∧ DataW.trod enc P w base spare held n f2.type [v2] = some y2 ∧ DataW.trod enc P w base spare held n f3.type [v3] = some y3 ∧ DataW.trod enc P w base spare held n f4.type [v4] = some y4 := by
  obtain ⟨cs, rfl, hsz⟩ := okWide_struct hs hv
  obtain ⟨c0, c1, c2, c3, c4, rfl⟩ := array5 (hsz.trans hC)
  obtain ⟨fuel, hf⟩ := h
  obtain ⟨xs, n, _, hx, hl, hlen, hff⟩ := DataW.trod_struct hs hf
  obtain ⟨o0, k0⟩ := hone_of hone 0 f0 rfl
  obtain ⟨o1, k1⟩ := hone_of hone 1 f1 rfl
  obtain ⟨o2, k2⟩ := hone_of hone 2 f2 rfl
  obtain ⟨o3, k3⟩ := hone_of hone 3 f3 rfl
  obtain ⟨o4, k4⟩ := hone_of hone 4 f4 rfl
  match xs, hlen with
  | [y0, y1, y2, y3, y4], _ =>
    simp only [Prod.mk.injEq] at hx
    exact ⟨c0, c1, c2, c3, c4, y0, y1, y2, y3, y4, n, rfl, by simpa using hx.1, by simpa [Value.cells, o0, k0] using hff 0 f0 rfl, by simpa [Value.cells, o1, k1] using hff 1 f1 rfl, by simpa [Value.cells, o2, k2] using hff 2 f2 rfl, by simpa [Value.cells, o3, k3] using hff 3 f3 rfl, by simpa [Value.cells, o4, k4] using hff 4 f4 rfl⟩
end
end Go.Proofs.Ytkmohpdcchpndaa

/-
  The document's own 'over'.
-/
namespace Go.Proofs.Ytkmohpdcchpndaa
open Go.RowKit
set_option linter.unusedVariables false
set_option linter.unusedSimpArgs false
set_option maxRecDepth 100000
theorem has_take {w : World} {a : Option Addr} {zs : List Int} (h : Has w a zs) (k : Nat) : Has w a (zs.take k) := by
  rcases h with ⟨rfl, rfl⟩ | ⟨x, rfl, hc⟩
  · exact .inl ⟨rfl, by simp⟩
  · refine .inr ⟨x, rfl, fun j hj => ?_⟩
    have hj' : j < k ∧ j < zs.length := by simp at hj; omega
    rw [hc j hj'.2]
    simp [List.getD, List.getElem?_take, hj'.1]
theorem has_drop {w : World} {x : Addr} {zs : List Int} (h : Has w (some x) zs) (k : Nat) : Has w (some (x.add k)) (zs.drop k) := by
  rcases h with ⟨e, _⟩ | ⟨y, e, hc⟩
  · cases e
  · cases e
    refine .inr ⟨_, rfl, fun j hj => ?_⟩
    have hj' : k + j < zs.length := by simp at hj; omega
    rw [add_add, hc (k + j) hj']
    simp [List.getD, List.getElem?_drop]
theorem octets_drop {zs : List Int} (h : Octets zs) (k : Nat) : Octets (zs.drop k) := fun j => by
  have := h (k + j)
  simpa [List.getD, List.getElem?_drop] using this
theorem ov_one {w w1 : World} {v1 : Value} {z : List Int} {k : Nat} (hl : z.length = k) (hB : Buf w1 w.heap.size v1 ([] ++ z)) (hg : w.drew.grownBy w1 (Value.slice none 0 0).ownBlock) : ∃ a1 c1, v1 = .slice a1 k c1 ∧ (k ≤ c1 ∧ c1 ≤ 9223372036854775807) ∧ Hid (Buf w1 w.heap.size (.slice a1 k c1) z) ∧ Hid (Below w.heap.size w w1) := by
  obtain ⟨a1, c1, rfl, _, _, h1, h2⟩ := hB.form
  rw [List.nil_append, hl] at *
  exact ⟨a1, c1, rfl, ⟨h1, h2⟩, hB, (Below.refl w.heap.size w).drew.grown hg (Nat.le_refl _) (fun k h => by cases h)⟩
theorem ov_two {w w1 w2 : World} {v2 : Value} {z y : List Int} {k n : Nat} {a1 : Option Addr} {c1 : Nat} (hl : z.length = k) (hy : y.length = n) (h1 : Hid (Below w.heap.size w w1)) (hB1 : Hid (Buf w1 w.heap.size (.slice a1 k c1) z)) (hB : Buf w2 w.heap.size v2 (z ++ y)) (hg : w1.grownBy w2 (Value.slice a1 k c1).ownBlock) : ∃ a2 c2, v2 = .slice a2 (k + n) c2 ∧ (k + n ≤ c2 ∧ c2 ≤ 9223372036854775807) ∧ Hid (Buf w2 w.heap.size (.slice a2 (k + n) c2) (z ++ y)) ∧ Hid (Below w.heap.size w w2) := by
  obtain ⟨a2, c2, rfl, _, _, h3, h4⟩ := hB.form
  rw [List.length_append, hl, hy] at *
  exact ⟨a2, c2, rfl, ⟨h3, h4⟩, hB, h1.out.grown hg h1.out.size (fun k h => (hB1.out.low h).1)⟩
theorem ov_two0 {w w1 w2 : World} {v2 : Value} {z y : List Int} {k : Nat} {a1 : Option Addr} {c1 : Nat} (hl : z.length = k) (h1 : Hid (Below w.heap.size w w1)) (hB1 : Hid (Buf w1 w.heap.size (.slice a1 k c1) z)) (hB : Buf w2 w.heap.size v2 (z ++ y.take 0)) (hg : w1.grownBy w2 (Value.slice a1 k c1).ownBlock) : ∃ a2 c2, v2 = .slice a2 k c2 ∧ (k ≤ c2 ∧ c2 ≤ 9223372036854775807) ∧ Hid (Buf w2 w.heap.size (.slice a2 k c2) z) ∧ Hid (Below w.heap.size w w2) := by
  rw [List.take_zero, List.append_nil] at hB
  obtain ⟨a2, c2, rfl, _, _, h3, h4⟩ := hB.form
  rw [hl] at *
  exact ⟨a2, c2, rfl, ⟨h3, h4⟩, hB, h1.out.grown hg h1.out.size (fun k h => (hB1.out.low h).1)⟩
theorem ov_three {w w1 w2 : World} {v1 v2 : Value} {z y : List Int} (h1 : Hid (Below w.heap.size w w1)) (hB1 : Hid (Buf w1 w.heap.size v1 z)) (hB : Buf w2 w.heap.size v2 (z ++ y)) (hg : w1.grownBy w2 v1.ownBlock) : Buf w2 w.heap.size v2 (z ++ y) ∧ Below w.heap.size w w2 :=
  ⟨hB, h1.out.grown hg h1.out.size (fun k h => (hB1.out.low h).1)⟩
set_option maxHeartbeats 1000000 in
theorem over_any (w : World) (ab : Option Addr) (nb cb : Nat) (bs : List Int) (hlb : bs.length = nb) (hb : Has w ab bs) (hob : Octets bs) (hbb : ab = none → cb = 0) (hfb : nb ≤ cb) (hcb : cb ≤ 9223372036854775807) (at_ : Nat) (hat : at_ ≤ nb)
    (ad : Option Addr) (nd cd : Nat) (ds : List Int) (hld : ds.length = nd) (hd : Has w ad ds) (hod : Octets ds) (hbd : ad = none → cd = 0) (hfd : nd ≤ cd) (hcd : cd ≤ 9223372036854775807) (n : Nat) (hn : n ≤ nd) (hs1 : nb ≤ 1099511627776) (hs2 : nd ≤ 1099511627776) :
    Calls Try.prog 23 #[.slice ab nb cb, .int .i64 at_, .slice ad nd cd, .int .i64 n] w fun e w' => ∃ v, e = .returned v ∧ Buf w' w.heap.size v (over bs at_ (ds.take n)) ∧ Below w.heap.size w w' := by
  obtain ⟨i0, hi, hz0, hz1, hz2⟩ := info_parts Try.info5
  have HLb : Hid ((bs.take at_).length = at_) := (by simp; omega : (bs.take at_).length = at_)
  have HLd : Hid ((ds.take n).length = n) := (by simp; omega : (ds.take n).length = n)
  have HLr : Hid ((bs.drop (at_ + n)).length = nb - (at_ + n)) := (by simp; omega : (bs.drop (at_ + n)).length = nb - (at_ + n))
  have HTb := hideL (has_take hb at_)
  have HTd := hideL (has_take hd n)
  have HOb : Hid (Octets (bs.take at_)) := hob.take at_
  have HOd : Hid (Octets (ds.take n)) := hod.take n
  have HOr : Hid (Octets (bs.drop (at_ + n))) := octets_drop hob _
  have e0 : over bs at_ (ds.take n) = bs.take at_ ++ ds.take n ++ bs.drop (at_ + n) := by unfold over; rw [HLd.out]
  have HE := hideL e0
  have HF : Hid (nb ≤ at_ + n → over bs at_ (ds.take n) = bs.take at_ ++ ds.take n) := fun h => by rw [e0, List.drop_eq_nil_of_le (by omega)]; simp
  have hsum : at_ + n ≤ 9223372036854775807 := by omega
  have i1 : (at_ : Int) ≤ cb := by omega
  have i2 : (n : Int) ≤ cd := by omega
  have i3 : (0 : Int) ≤ at_ := by omega
  have i4 : (0 : Int) ≤ n := by omega
  clear hod hob hd hld e0
  rcases ab with _ | xb
  · obtain rfl := hbb rfl
    obtain rfl : nb = 0 := by omega
    obtain rfl : at_ = 0 := by omega
    have e1 : over bs 0 (ds.take n) = ds.take n := by rw [HF.out (by omega)]; simp
    have HG := hideL e1
    clear hb hlb e1
    rcases ad with _ | xd
    · obtain rfl := hbd rfl
      obtain rfl : nd = 0 := by omega
      obtain rfl : n = 0 := by omega
      go_enter Try.func23, Try.ntmps23
      go_wp2_with fail
      go_region_held3 (fun _ => True) (trivial) (fail)
      go_wp2_with fail
      go_ret
      exact ⟨_, rfl, by rw [HG.out, List.take_zero]; exact Buf.nil _ _, (Below.refl _ w).drew⟩
    · go_enter Try.func23, Try.ntmps23
      go_wp2_with fail
      go_region_held3 (fun _ => True) (trivial) (first | (refine step_append_buf _ rfl (.tmp 14) (.tmp 17) 32 rfl w.heap.size i0 Try.underlying32 hi hz0 hz1 hz2 (.slice none 0 0) [] rfl (Buf.nil _ _) (some xd) n cd (ds.take n) rfl HLd.out hbd HTd.out HOd.out (by simp; omega) (Nat.le_refl _) ?_; intro v1 w1 hB1 hg1 _; obtain ⟨a2, c2, rfl, k2, HB2, H2⟩ := ov_one HLd.out hB1 hg1; clear hB1 hg1))
      go_wp2_with fail
      go_ret
      exact ⟨_, rfl, by rw [HG.out]; exact HB2.out, H2.out⟩
  · have HTr := hideL (has_drop hb (at_ + n))
    clear hb hlb
    rcases ad with _ | xd
    · obtain rfl := hbd rfl
      obtain rfl : nd = 0 := by omega
      obtain rfl : n = 0 := by omega
      have e1 : over bs at_ (ds.take 0) = bs := by rw [HE.out]; simp
      have HG := hideL e1
      rw [Nat.add_zero] at HTr HLr HOr hsum
      have HG2 : Hid (bs.take at_ ++ bs.drop at_ = bs) := List.take_append_drop at_ bs
      have HG3 : Hid (nb ≤ at_ → bs.take at_ = bs) := fun h => by have := HLr.out; rw [List.length_drop] at this; rw [List.take_of_length_le (by omega)]
      clear e1 HE HF
      by_cases hlt : at_ < nb
      · go_enter Try.func23, Try.ntmps23
        go_wp2_with fail
        go_region_held3 (fun _ => True) (trivial) (first | (refine step_append_buf _ rfl (.tmp 10) (.tmp 13) 32 rfl w.heap.size i0 Try.underlying32 hi hz0 hz1 hz2 (.slice none 0 0) [] rfl (Buf.nil _ _) (some xb) at_ cb (bs.take at_) rfl HLb.out hbb HTb.out HOb.out (by simp; omega) (Nat.le_refl _) ?_; intro v1 w1 hB1 hg1 _; obtain ⟨a1, c1, rfl, k1, HB1, H1⟩ := ov_one HLb.out hB1 hg1; clear hB1 hg1) | (refine step_append_buf _ rfl (.tmp 14) (.tmp 17) 32 rfl w.heap.size i0 Try.underlying32 hi hz0 hz1 hz2 (.slice a1 at_ c1) (bs.take at_) rfl HB1.out none 0 0 (ds.take 0) rfl HLd.out (fun _ => rfl) (HTd.out.of_below H1.out) HOd.out (by rw [HLb.out]; omega) H1.out.size ?_; intro v2 w2 hB2 hg2 _; obtain ⟨a2, c2, rfl, k2, HB2, H2⟩ := ov_two0 HLb.out H1 HB1 hB2 hg2; clear hB2 hg2))
        go_wp2_with (at_builtin; refine wpList_append_buf _ rfl (.tmp 25) (.tmp 30) 32 rfl w.heap.size i0 Try.underlying32 hi hz0 hz1 hz2 (.slice a2 at_ c2) (bs.take at_) rfl HB2.out (some (xb.add at_)) (nb - at_) (cb - at_) (bs.drop at_) rfl HLr.out (fun h => by cases h) (HTr.out.of_below H2.out) HOr.out (by rw [HLb.out]; omega) H2.out.size ?_; intro v3 w3 hB3 hg3 _; have H3 := ov_three H2 HB2 hB3 hg3; clear hB3 hg3)
        all_goals (go_ret; exact ⟨_, rfl, by rw [HG.out, ← HG2.out]; exact H3.1, H3.2⟩)
      · have HG4 := hideL (HG3.out (by omega))
        go_enter Try.func23, Try.ntmps23
        go_wp2_with fail
        go_region_held3 (fun _ => True) (trivial) (first | (refine step_append_buf _ rfl (.tmp 10) (.tmp 13) 32 rfl w.heap.size i0 Try.underlying32 hi hz0 hz1 hz2 (.slice none 0 0) [] rfl (Buf.nil _ _) (some xb) at_ cb (bs.take at_) rfl HLb.out hbb HTb.out HOb.out (by simp; omega) (Nat.le_refl _) ?_; intro v1 w1 hB1 hg1 _; obtain ⟨a1, c1, rfl, k1, HB1, H1⟩ := ov_one HLb.out hB1 hg1; clear hB1 hg1) | (refine step_append_buf _ rfl (.tmp 14) (.tmp 17) 32 rfl w.heap.size i0 Try.underlying32 hi hz0 hz1 hz2 (.slice a1 at_ c1) (bs.take at_) rfl HB1.out none 0 0 (ds.take 0) rfl HLd.out (fun _ => rfl) (HTd.out.of_below H1.out) HOd.out (by rw [HLb.out]; omega) H1.out.size ?_; intro v2 w2 hB2 hg2 _; obtain ⟨a2, c2, rfl, k2, HB2, H2⟩ := ov_two0 HLb.out H1 HB1 hB2 hg2; clear hB2 hg2))
        go_wp2_with fail
        all_goals (go_ret; exact ⟨_, rfl, by rw [HG.out, ← HG4.out]; exact HB2.out, H2.out⟩)
    · by_cases hlt : at_ + n < nb
      · go_enter Try.func23, Try.ntmps23
        go_wp2_with fail
        go_region_held3 (fun _ => True) (trivial) (first | (refine step_append_buf _ rfl (.tmp 10) (.tmp 13) 32 rfl w.heap.size i0 Try.underlying32 hi hz0 hz1 hz2 (.slice none 0 0) [] rfl (Buf.nil _ _) (some xb) at_ cb (bs.take at_) rfl HLb.out hbb HTb.out HOb.out (by simp; omega) (Nat.le_refl _) ?_; intro v1 w1 hB1 hg1 _; obtain ⟨a1, c1, rfl, k1, HB1, H1⟩ := ov_one HLb.out hB1 hg1; clear hB1 hg1) | (refine step_append_buf _ rfl (.tmp 14) (.tmp 17) 32 rfl w.heap.size i0 Try.underlying32 hi hz0 hz1 hz2 (.slice a1 at_ c1) (bs.take at_) rfl HB1.out (some xd) n cd (ds.take n) rfl HLd.out hbd (HTd.out.of_below H1.out) HOd.out (by rw [HLb.out]; omega) H1.out.size ?_; intro v2 w2 hB2 hg2 _; obtain ⟨a2, c2, rfl, k2, HB2, H2⟩ := ov_two HLb.out HLd.out H1 HB1 hB2 hg2; clear hB2 hg2))
        go_wp2_with (at_builtin; refine wpList_append_buf _ rfl (.tmp 25) (.tmp 30) 32 rfl w.heap.size i0 Try.underlying32 hi hz0 hz1 hz2 (.slice a2 (at_ + n) c2) (bs.take at_ ++ ds.take n) rfl HB2.out (some (xb.add (at_ + n))) (nb - (at_ + n)) (cb - (at_ + n)) (bs.drop (at_ + n)) rfl HLr.out (fun h => by cases h) (HTr.out.of_below H2.out) HOr.out (by rw [List.length_append, HLb.out, HLd.out]; omega) H2.out.size ?_; intro v3 w3 hB3 hg3 _; have H3 := ov_three H2 HB2 hB3 hg3; clear hB3 hg3)
        all_goals (go_ret; exact ⟨_, rfl, HE.out ▸ H3.1, H3.2⟩)
      · have HG := hideL (HF.out (by omega))
        go_enter Try.func23, Try.ntmps23
        go_wp2_with fail
        go_region_held3 (fun _ => True) (trivial) (first | (refine step_append_buf _ rfl (.tmp 10) (.tmp 13) 32 rfl w.heap.size i0 Try.underlying32 hi hz0 hz1 hz2 (.slice none 0 0) [] rfl (Buf.nil _ _) (some xb) at_ cb (bs.take at_) rfl HLb.out hbb HTb.out HOb.out (by simp; omega) (Nat.le_refl _) ?_; intro v1 w1 hB1 hg1 _; obtain ⟨a1, c1, rfl, k1, HB1, H1⟩ := ov_one HLb.out hB1 hg1; clear hB1 hg1) | (refine step_append_buf _ rfl (.tmp 14) (.tmp 17) 32 rfl w.heap.size i0 Try.underlying32 hi hz0 hz1 hz2 (.slice a1 at_ c1) (bs.take at_) rfl HB1.out (some xd) n cd (ds.take n) rfl HLd.out hbd (HTd.out.of_below H1.out) HOd.out (by rw [HLb.out]; omega) H1.out.size ?_; intro v2 w2 hB2 hg2 _; obtain ⟨a2, c2, rfl, k2, HB2, H2⟩ := ov_two HLb.out HLd.out H1 HB1 hB2 hg2; clear hB2 hg2))
        go_wp2_with fail
        all_goals (go_ret; exact ⟨_, rfl, HG.out ▸ HB2.out, H2.out⟩)
end Go.Proofs.Ytkmohpdcchpndaa

/-
  The walk of DiskPlaces.
-/
namespace Go.Proofs.Ytkmohpdcchpndaa
open Go.RowKit Go.Maps
set_option linter.unusedVariables false
set_option linter.unusedSimpArgs false
set_option maxRecDepth 100000
/-- a slice of bytes that came in -/
structure Bin (w : World) (a : Option Addr) (n cap : Nat) (zs : List Int) : Prop where
  len : zs.length = n
  has : Has w a zs
  oct : Octets zs
  bare : a = none → cap = 0
  fits : n ≤ cap
  cap : cap ≤ maxLen
theorem Bin.below {w w' : World} {a : Option Addr} {n cap : Nat} {zs : List Int} (h : Bin w a n cap zs) (hb : Below w.heap.size w w') : Bin w' a n cap zs := ⟨h.len, h.has.of_below hb, h.oct, h.bare, h.fits, h.cap⟩
/-- all that came in -/
structure In5 (w : World) (a0 : Option Addr) (n0 c0 : Nat) (Old : List Int) (a1 : Option Addr) (n1 c1 : Nat) (New : List Int) (a4 : Option Addr) (n4 c4 : Nat) (cs : List Int) : Prop where
  old : Bin w a0 n0 c0 Old
  new : Bin w a1 n1 c1 New
  nums : Nums w a4 cs
  nlen : cs.length = n4
  nbare : a4 = none → c4 = 0
  nfew : n4 ≤ 17592186043904
  nrng : ∀ c ∈ cs, -9223372036854775808 ≤ c ∧ c ≤ 9223372036854775807
theorem In5.below {w w' : World} {a0 : Option Addr} {n0 c0 : Nat} {Old : List Int} {a1 : Option Addr} {n1 c1 : Nat} {New : List Int} {a4 : Option Addr} {n4 c4 : Nat} {cs : List Int} (h : In5 w a0 n0 c0 Old a1 n1 c1 New a4 n4 c4 cs) (hb : Below w.heap.size w w') : In5 w' a0 n0 c0 Old a1 n1 c1 New a4 n4 c4 cs :=
  ⟨h.old.below hb, h.new.below hb, h.nums.below hb, h.nlen, h.nbare, h.nfew, h.nrng⟩
/-- the struct's block, and all behind it -/
structure Inp (wB : World) (sb : Nat) (a0 : Option Addr) (n0 c0 : Nat) (Old : List Int) (a1 : Option Addr) (n1 c1 : Nat) (New : List Int) (piece aft : Int) (a4 : Option Addr) (n4 c4 : Nat) (cs : List Int) : Prop where
  blk : wB.heap[sb]? = some (.cells #[.slice a0 n0 c0, .slice a1 n1 c1, .int .i64 piece, .int .i64 aft, .slice a4 n4 c4] 52 (0, 0))
  inp : In5 wB a0 n0 c0 Old a1 n1 c1 New a4 n4 c4 cs
theorem Inp.cells {wB w : World} {sb : Nat} {a0 : Option Addr} {n0 c0 : Nat} {Old : List Int} {a1 : Option Addr} {n1 c1 : Nat} {New : List Int} {piece aft : Int} {a4 : Option Addr} {n4 c4 : Nat} {cs : List Int} (h : Inp wB sb a0 n0 c0 Old a1 n1 c1 New piece aft a4 n4 c4 cs) (hb : Below wB.heap.size wB w) :
    w.cell? ⟨sb, 0, none⟩ = some (.slice a0 n0 c0) ∧ w.cell? ⟨sb, 1, none⟩ = some (.slice a1 n1 c1) ∧ w.cell? ⟨sb, 2, none⟩ = some (.int .i64 piece) ∧ w.cell? ⟨sb, 3, none⟩ = some (.int .i64 aft) ∧ w.cell? ⟨sb, 4, none⟩ = some (.slice a4 n4 c4) := by
  have hk := (hb.block sb (lt_of_block h.blk)).trans h.blk
  refine ⟨?_, ?_, ?_, ?_, ?_⟩ <;> rw [cell_block hk] <;> rfl
theorem arm_all {wB w6 : World} {sb : Nat} {a0 : Option Addr} {n0 c0 : Nat} {Old : List Int} {a1 : Option Addr} {n1 c1 : Nat} {New : List Int} {piece aft : Int} {a4 : Option Addr} {n4 c4 : Nat} {cs : List Int} (h : Inp wB sb a0 n0 c0 Old a1 n1 c1 New piece aft a4 n4 c4 cs) (hd : Dw wB w6 2 (Q0 Old)) (haf : aft ≤ 9223372036854775807) :
    Calls Try.prog 14 #[.slice a4 n4 c4] w6.drew fun e w' => ∃ g cp, e = .returned (.slice (some ⟨g, 0, none⟩) n4 cp) ∧ w'.cell? ⟨sb, 3, none⟩ = some (.int .i64 aft) ∧ w'.cell? ⟨sb, 4, none⟩ = some (.slice a4 n4 c4) ∧
      Calls Try.prog 25 #[.pointer (some ⟨wB.heap.size, 0, none⟩), .int .i64 aft, .slice (some ⟨g, 0, none⟩) n4 cp] w' fun e w2 => e = .returned (.tuple #[]) ∧ w2.cell? ⟨sb, 3, none⟩ = some (.int .i64 aft) ∧ w2.cell? ⟨sb, 4, none⟩ = some (.slice a4 n4 c4) ∧ Dw wB w2 2 (P0 Old cs) := by
  have hd' : Dw wB w6.drew 2 (Q0 Old) := hd.below (Below.refl w6.heap.size w6).drew
  refine (ints_any w6.drew a4 n4 c4 cs h.inp.nlen (h.inp.nums.below hd'.bel) h.inp.nbare h.inp.nfew).mono ?_
  rintro e w7 ⟨g, cp, rfl, hi⟩
  obtain ⟨_, _, _, x3, x4⟩ := h.cells (hd'.below hi.bel).bel
  refine ⟨g, cp, rfl, x3, x4, ?_⟩
  refine (step_arm hd' hi h.inp.nlen h.inp.nrng h.inp.nfew aft haf).mono ?_
  rintro e w8 ⟨rfl, hD⟩
  obtain ⟨_, _, _, y3, y4⟩ := h.cells hD.bel
  exact ⟨rfl, y3, y4, hD⟩
theorem crash_all {wB w : World} {sb : Nat} {a0 : Option Addr} {n0 c0 : Nat} {Old : List Int} {a1 : Option Addr} {n1 c1 : Nat} {New : List Int} {piece aft : Int} {a4 : Option Addr} {n4 c4 : Nat} {cs z : List Int} {bd : Nat} (h : Inp wB sb a0 n0 c0 Old a1 n1 c1 New piece aft a4 n4 c4 cs) (hd : Dw wB w bd (P3 cs z)) (hb : bd < 1000000) :
    Calls Try.prog 14 #[.slice a4 n4 c4] w fun e w' => ∃ g cp, e = .returned (.slice (some ⟨g, 0, none⟩) n4 cp) ∧
      Calls Try.prog 13 #[.pointer (some ⟨wB.heap.size, 0, none⟩), .slice (some ⟨g, 0, none⟩) n4 cp] w' fun e w2 => e = .returned (.tuple #[]) ∧ Dw wB w2 bd (Dead z) := by
  refine (ints_any w a4 n4 c4 cs h.inp.nlen (h.inp.nums.below hd.bel) h.inp.nbare h.inp.nfew).mono ?_
  rintro e w7 ⟨g, cp, rfl, hi⟩
  exact ⟨g, cp, rfl, step_crash hd hb hi h.inp.nlen h.inp.nrng h.inp.nfew⟩
/-- the loop: so much is written, or the power failed -/
def Lps (wB w : World) (Old New cs : List Int) (n1 : Nat) (v : Int) (at_ : Nat) : Prop := (v = 0 ∧ Dw wB w (3 + at_) (P1 Old cs (New.take at_))) ∨ (v = 32 ∧ Dw wB w 100000 (Dead Old))
/-- a piece of the new bytes is written -/
theorem piece_all {wB w : World} {sb : Nat} {a0 : Option Addr} {n0 c0 : Nat} {Old : List Int} {x : Addr} {n1 c1 : Nat} {New : List Int} {piece aft : Int} {a4 : Option Addr} {n4 c4 : Nat} {cs : List Int} (h : Inp wB sb a0 n0 c0 Old (some x) n1 c1 New piece aft a4 n4 c4 cs) (at_ m : Nat) (hd : Dw wB w (3 + at_) (P1 Old cs (New.take at_))) (hm : 0 < m) (ha : at_ + m ≤ n1) (hO : n0 ≤ 4096) (hM : n1 ≤ 4096) :
    Calls Try.prog 20 #[.slice (some (x.add at_)) m (c1 - at_)] w fun e w1 => ∃ g off cp, e = .returned (.slice (some ⟨g, off, none⟩) m cp) ∧
      Calls Try.prog 19 #[.pointer (some ⟨wB.heap.size, 0, none⟩), .string nG, .int .i64 (at_ : Nat), .slice (some ⟨g, off, none⟩) m cp] w1 fun e w2 => ∃ v, e = .returned (.int .i64 v) ∧ Lps wB w2 Old New cs n1 v (at_ + m) := by
  have hN := h.inp.new
  have hl := hN.len
  have hH : Has w (some x) New := hN.has.of_below hd.bel
  have hp : Has w (some (x.add at_)) ((New.drop at_).take m) := by
    rcases hH with ⟨e, _⟩ | ⟨p, e, hc⟩
    · cases e
    · cases e
      refine .inr ⟨_, rfl, fun j hj => ?_⟩
      have hj' : j < m := by simp at hj; omega
      rw [add_add, hc (at_ + j) (by omega)]
      simp [List.getD, hj', List.getElem?_take, List.getElem?_drop]
  have ho : Octets ((New.drop at_).take m) := fun j => by
    by_cases hj : j < m
    · have := hN.oct (at_ + j)
      simpa [List.getD, hj, List.getElem?_take, List.getElem?_drop] using this
    · simp [List.getD, List.getElem?_take, hj]
  have hlen : ((New.drop at_).take m).length = m := by simp; omega
  have htl : (New.take at_).length = at_ := by simp; omega
  refine (lent_any w _ m (c1 - at_) _ hlen hp ho (fun e => by cases e) (by omega)).mono ?_
  rintro e w1 ⟨g, off, cp, rfl, hh, _, hb⟩
  refine ⟨g, off, cp, rfl, ?_⟩
  have hw := step_write (hd.below hb) (by omega) (some ⟨g, off, none⟩) m cp _ hlen (fun e => by cases e) hh ho (by rw [htl]; omega) (by rw [h.inp.old.len]; exact hO)
  rw [htl] at hw
  refine Calls.mono hw ?_
  rintro e w2 ⟨v, rfl, hv⟩
  refine ⟨v, rfl, ?_⟩
  have e2 : New.take at_ ++ (New.drop at_).take m = New.take (at_ + m) := by rw [List.take_add]
  rw [e2] at hv
  exact hv.imp (fun ⟨e, q⟩ => ⟨e, q.imp (fun _ h => h) (by omega)⟩) (fun ⟨e, q⟩ => ⟨e, q.imp (fun _ h => h) (by omega)⟩)
/-- the end: the power is back, and f is read -/
theorem tail_all {wB w : World} {sb : Nat} {a0 : Option Addr} {n0 c0 : Nat} {Old : List Int} {a1 : Option Addr} {n1 c1 : Nat} {New : List Int} {piece aft : Int} {a4 : Option Addr} {n4 c4 : Nat} {cs b : List Int} {bd : Nat} (h : Inp wB sb a0 n0 c0 Old a1 n1 c1 New piece aft a4 n4 c4 cs) (hd : Dw wB w bd (Dead b)) (hb : bd < 1000000) :
    Calls Try.prog 15 #[.pointer (some ⟨wB.heap.size, 0, none⟩)] w fun e w1 => e = .returned (.bool true) ∧ Calls Try.prog 16 #[.pointer (some ⟨wB.heap.size, 0, none⟩)] w1 fun e w2 => e = .returned (.tuple #[]) ∧ Calls Try.prog 12 #[.pointer (some ⟨wB.heap.size, 0, none⟩), .string nF] w2 fun e w3 => ∃ ab nb cb, e = .returned (.tuple #[.slice ab nb cb, .int .i64 0]) ∧
      (convert 32 9 (.slice ab nb cb)).run Try.prog w3 = .ok (.string (bstr b)) w3 ∧ (convert 32 9 (.slice a0 n0 c0)).run Try.prog w3 = .ok (.string (bstr Old)) w3 ∧ (convert 32 9 (.slice a1 n1 c1)).run Try.prog w3 = .ok (.string (bstr New)) w3 ∧ w3.cell? ⟨sb, 0, none⟩ = some (.slice a0 n0 c0) ∧ w3.cell? ⟨sb, 1, none⟩ = some (.slice a1 n1 c1) ∧ Below wB.heap.size wB w3 := by
  obtain ⟨h1, h2⟩ := step_up hd hb
  refine h1.mono ?_
  rintro e w1 ⟨rfl, rfl⟩
  refine ⟨rfl, h2.mono ?_⟩
  rintro e w2 ⟨rfl, h3⟩
  refine ⟨rfl, h3.mono ?_⟩
  rintro e w3 ⟨v, rfl, hB, hbl⟩
  obtain ⟨ab, cb, rfl, _, hh, _⟩ := hB.form
  obtain ⟨x0, x1, _⟩ := h.cells hbl
  exact ⟨ab, _, cb, rfl, str_of w3 ab _ cb b rfl hh, str_of w3 a0 n0 c0 Old h.inp.old.len (h.inp.old.has.of_below hbl), str_of w3 a1 n1 c1 New h.inp.new.len (h.inp.new.has.of_below hbl), x0, x1, hbl⟩
theorem fin_all {w wB wv : World} (h1 : Hid (Below w.heap.size w wB)) (h2 : Hid (Below wB.heap.size wB wv)) : (Ending.returned (.bool true) : Ending) = .returned (.bool true) ∧ Below w.heap.size w wv := ⟨rfl, h1.out.trans (h2.out.mono h1.out.size)⟩
set_option maxHeartbeats 4000000 in
theorem places_any (w : World) (a0 : Option Addr) (n0 c0 : Nat) (Old : List Int) (a1 : Option Addr) (n1 c1 : Nat) (New : List Int) (piece aft : Int) (a4 : Option Addr) (n4 c4 : Nat) (cs : List Int) (h : In5 w a0 n0 c0 Old a1 n1 c1 New a4 n4 c4 cs) (hpc : -9223372036854775808 ≤ piece ∧ piece ≤ 9223372036854775807) (haf : -9223372036854775808 ≤ aft ∧ aft ≤ 9223372036854775807) (hn0 : n0 ≤ 140737488351232) (hn1 : n1 ≤ 140737488351232) :
    Calls Try.prog 5 #[.agg #[.slice a0 n0 c0, .slice a1 n1 c1, .int .i64 piece, .int .i64 aft, .slice a4 n4 c4]] w fun e w' => e = .returned (.bool true) ∧ Below w.heap.size w w' := by
  have H5 := hide2 h
  clear h
  go_enter Try.func5, Try.ntmps5
  go_wp2_with fail
  refine Calls.mono (awake_any _) ?_
  rintro e wB ⟨rfl, hb⟩
  have HBW := hide2 (((Below.refl _ w).alloc (Nat.le_refl _) (.cells #[.slice a0 n0 c0, .slice a1 n1 c1, .int .i64 piece, .int .i64 aft, .slice a4 n4 c4] 52 (0, 0))).trans (hb.mono (by simp)))
  have HI : Hid (Inp wB w.heap.size a0 n0 c0 Old a1 n1 c1 New piece aft a4 n4 c4 cs) := ⟨(hb.block _ (by simp)).trans (Go.heap_alloc_new w _), H5.out.below HBW.out⟩
  obtain ⟨x0, x1, x2, x3, x4⟩ := HI.out.cells (Below.refl _ wB)
  obtain ⟨sb, hsb⟩ : ∃ sb, w.heap.size = sb := ⟨_, rfl⟩
  rw [hsb] at HI x0 x1 x2 x3 x4
  rw [hsb]
  clear hb H5
  by_cases hO : 4096 < n0
  · go_wp2
    go_ret
    rw [← hsb]
    exact ⟨rfl, HBW.out⟩
  by_cases hM : 4096 < n1
  · go_wp2
    go_ret
    rw [← hsb]
    exact ⟨rfl, HBW.out⟩
  have HN := hide2 (one_new 65536 wB (by omega) nF nm_f)
  go_wp2_with fail
  refine Calls.mono HN.out ?_
  rintro e w1 ⟨rfl, hb1, hc⟩
  have HC := hide2 hc
  clear hc hb1 HN x0 x1 x2 x3 x4
  go_wp2_with fail
  refine Calls.mono HC.out ?_
  rintro e w2 ⟨v, rfl, hv, own2, hO2, hb2, hlow2⟩
  subst hv
  obtain ⟨x0, _⟩ := HI.out.cells hb2
  have HO2 := hide2 hO2
  have HB2 := hide2 hb2
  have HL2 := hide2 hlow2
  clear hO2 hb2 hlow2 HC
  go_wp2_with fail
  refine Calls.mono (lent_any w2 a0 n0 c0 Old HI.out.inp.old.len (HI.out.inp.old.has.of_below HB2.out) HI.out.inp.old.oct HI.out.inp.old.bare hn0) ?_
  rintro e w3 ⟨g3, o3, c3, rfl, hh3, hg3, hb3⟩
  have HH3 := hide2 hh3
  have HB3 := hide2 hb3
  clear hh3 hb3 x0
  go_wp2_with fail
  refine Calls.mono (one_write (HO2.out.below HB3.out) (by omega) nm_f 0 (Nat.zero_le _) (some ⟨g3, o3, none⟩) n0 c3 Old HI.out.inp.old.len (fun h => by cases h) HH3.out HI.out.inp.old.oct (by omega) (by omega)) ?_
  rintro e w4 ⟨v, rfl, hv, own4, hO4, hf4⟩
  subst hv
  have HO4 : Hid (OneR w4 wB.heap.size wB.heap.size nF 65536 ⟨[], [.wr 0 Old], Old⟩ False 2 own4) := by
    have e : over [] 0 Old = Old := by simp [over]
    rw [e] at hO4
    exact hO4
  have HF4 := hide2 (fr_low ((Fr.below HB3.out own2).trans hf4) HL2.out HB2.out)
  clear hO4 hf4 HO2 HB2 HL2 HB3 HH3
  go_wp2_with fail
  refine Calls.mono (one_sync HO4.out (by omega) nm_f) ?_
  rintro e w5 ⟨v, rfl, hv, own5, hO5, hf5⟩
  subst hv
  have HO5 := hide2 hO5
  have HF5 := hide2 (fr_low hf5 HF4.out.1 HF4.out.2)
  clear hO5 hf5 HO4 HF4
  go_wp2_with fail
  refine Calls.mono (one_syncdir HO5.out (by omega)) ?_
  rintro e w6 ⟨v, rfl, hv, own6, hO6, hf6⟩
  subst hv
  have HD6 : Hid (Dw wB w6 2 (Q0 Old)) := by
    obtain ⟨q1, q2⟩ := fr_low hf6 HF5.out.1 HF5.out.2
    exact one_dw hO6 q1 q2
  clear hO6 hf6 HO5 HF5
  obtain ⟨_, _, _, x3, x4⟩ := HI.out.cells HD6.out.bel
  have HA : Hid (Calls Try.prog 14 #[.slice a4 n4 c4] w6.drew fun e w' => ∃ g cp, e = .returned (.slice (some ⟨g, 0, none⟩) n4 cp) ∧ w'.cell? ⟨sb, 3, none⟩ = some (.int .i64 aft) ∧ w'.cell? ⟨sb, 4, none⟩ = some (.slice a4 n4 c4) ∧
      Calls Try.prog 25 #[.pointer (some ⟨wB.heap.size, 0, none⟩), .int .i64 aft, .slice (some ⟨g, 0, none⟩) n4 cp] w' fun e w2 => e = .returned (.tuple #[]) ∧ w2.cell? ⟨sb, 3, none⟩ = some (.int .i64 aft) ∧ w2.cell? ⟨sb, 4, none⟩ = some (.slice a4 n4 c4) ∧ Dw wB w2 2 (P0 Old cs)) := arm_all HI.out HD6.out haf.2
  go_wp2_with fail
  go_region_held3 (fun w' => w'.cell? ⟨sb, 3, none⟩ = some (.int .i64 aft) ∧ w'.cell? ⟨sb, 4, none⟩ = some (.slice a4 n4 c4)) (go_keep) (first | (go_at_call 14; refine HA.out.mono ?_; rintro ex w7 ⟨g7, cp7, rfl, y3, y4, hc⟩; have HC7 := hide2 hc; clear hc) | (go_at_call 25; refine HC7.out.mono ?_; rintro ex w8 ⟨rfl, z3, z4, hc⟩; have HD8 := hide2 hc; clear hc))
  clear HA HC7 HD6 x3 x4 y3 y4 z3 z4
  go_wp2_with fail
  refine Calls.mono (step_create HD8.out (by omega)) ?_
  rintro e w9 ⟨v9, rfl, hv9⟩
  have HL9 : Hid (Lps wB w9 Old New cs n1 v9 0) := hv9.imp (fun ⟨e, h⟩ => ⟨e, by simpa using h⟩) (fun ⟨e, h⟩ => ⟨e, h.imp (fun _ h => h) (by omega)⟩)
  clear hv9 HD8
  go_wp2_with fail
  go_loopw [4, 5, 6] (fun t4 t5 t6 wr => ∃ (v : Int) (at_ : Nat), t4 = .int .i64 v ∧ t5 = .int .i64 at_ ∧ at_ ≤ n1 ∧ Hid (Lps wB wr Old New cs n1 v at_)) (fun t4 t5 t6 _ => n1 - (intOf t5).toNat)
  case atStart => exact ⟨v9, 0, rfl, rfl, by omega, HL9⟩
  case round =>
    obtain ⟨v, at_, rfl, rfl, hat, HL⟩ := hrel
    clear HL9
    rcases HL.out with ⟨rfl, hD⟩ | ⟨rfl, hD⟩
    · have HD := hide2 hD
      clear hD HL
      obtain ⟨_, x1, x2, _⟩ := HI.out.cells HD.out.bel
      by_cases hlt : at_ < n1
      · obtain ⟨x, rfl⟩ : ∃ x, a1 = some x := by
          have hl := HI.out.inp.new.len
          rcases HI.out.inp.new.has with ⟨_, e⟩ | ⟨p, e, hc⟩
          · rw [e] at hl; simp at hl; omega
          · exact ⟨p, e⟩
        obtain ⟨r, hr, hr1⟩ : ∃ r : Nat, rnd piece 100 = (r : Int) ∧ r < 100 := by
          have := rnd_range piece 100 (by omega)
          exact ⟨(rnd piece 100).toNat, by omega, by omega⟩
        have HR := hide2 (round_any wr piece 100 (by omega) (by omega) hpc)
        rw [hr] at HR
        have hc1 : n1 ≤ c1 ∧ c1 ≤ 9223372036854775807 := ⟨HI.out.inp.new.fits, HI.out.inp.new.cap⟩
        have hlt' : (at_ : Int) < n1 := by omega
        clear hr
        by_cases hg : n1 < at_ + 1 + r
        · have HP := hide2 (piece_all HI.out at_ (n1 - at_) HD.out (by omega) (by omega) (by omega) (by omega))
          have hg' : (n1 : Int) - at_ < 1 + r := by omega
          go_wp2_with (first | (go_at_call 24; refine HR.out.mono ?_; rintro ex wr ⟨rfl, rfl⟩))
          refine Calls.mono HP.out ?_
          rintro ex wa ⟨ga, oa, ca, rfl, hc⟩
          have HP2 := hide2 hc
          clear hc HP HR x1 x2
          go_wp2_with fail
          refine Calls.mono HP2.out ?_
          rintro ex wb ⟨vb, rfl, hl⟩
          have HLb := hide2 hl
          clear hl HP2 HD
          go_wp2_with fail
          go_roundw
          case rel => exact ⟨vb, at_ + (n1 - at_), rfl, by go_num, by omega, HLb⟩
          case measure => simp [intOf]; omega
        · have HP := hide2 (piece_all HI.out at_ (1 + r) HD.out (by omega) (by omega) (by omega) (by omega))
          have hg' : ¬ (n1 : Int) - at_ < 1 + r := by omega
          go_wp2_with (first | (go_at_call 24; refine HR.out.mono ?_; rintro ex wr ⟨rfl, rfl⟩))
          refine Calls.mono HP.out ?_
          rintro ex wa ⟨ga, oa, ca, rfl, hc⟩
          have HP2 := hide2 hc
          clear hc HP HR x1 x2
          go_wp2_with fail
          refine Calls.mono HP2.out ?_
          rintro ex wb ⟨vb, rfl, hl⟩
          have HLb := hide2 hl
          clear hl HP2 HD
          go_wp2_with fail
          go_roundw
          case rel => exact ⟨vb, at_ + (1 + r), rfl, by go_num, by omega, HLb⟩
          case measure => simp [intOf]; omega
      · have hlt' : ¬ (at_ : Int) < n1 := by omega
        obtain rfl : at_ = n1 := by omega
        have e : New.take at_ = New := by rw [List.take_of_length_le]; rw [HI.out.inp.new.len]; exact Nat.le_refl _
        rw [e] at HD
        clear x2 hpc hn0 hn1 e
        go_wp2_with fail
        clear x1
        refine Calls.mono (step_sync HD.out (by omega)) ?_
        rintro ex ws ⟨vs, rfl, ⟨rfl, hD⟩ | ⟨rfl, hD⟩⟩
        · have HDs := hide2 hD
          clear hD HD
          go_wp2_with fail
          refine Calls.mono (step_rename HDs.out (by omega)) ?_
          rintro ex wn ⟨vs, rfl, ⟨rfl, hD⟩ | ⟨rfl, hD | hD⟩⟩
          · have HDn := hide2 hD
            clear hD HDs
            go_wp2_with fail
            refine Calls.mono (step_syncdir HDn.out (by omega)) ?_
            rintro ex wd ⟨vs, rfl, ⟨rfl, hD⟩ | ⟨rfl, hD | hD⟩⟩
            · have HDd := hide2 hD
              have HCr := hide2 (crash_all HI.out hD (by omega))
              obtain ⟨_, _, _, _, x4⟩ := HI.out.cells HDd.out.bel
              clear hD HDn HDd
              go_wp2_with fail
              refine Calls.mono HCr.out ?_
              rintro ex wi ⟨gi, ci, rfl, hc⟩
              have HC2 := hide2 hc
              clear hc HCr x4
              go_wp2_with fail
              refine Calls.mono HC2.out ?_
              rintro ex wk ⟨rfl, hD⟩
              have HDk := hide2 hD
              clear hD HC2
              have HT := hide2 (tail_all HI.out HDk.out (by omega))
              clear HDk
              go_wp2_with fail
              refine Calls.mono HT.out ?_
              rintro ex wt ⟨rfl, hc⟩
              have HT2 := hide2 hc
              clear hc HT
              go_wp2_with fail
              refine Calls.mono HT2.out ?_
              rintro ex wu ⟨rfl, hc⟩
              have HT3 := hide2 hc
              clear hc HT2
              go_wp2_with fail
              refine Calls.mono HT3.out ?_
              rintro ex wv ⟨ab, nb, cb, rfl, s1, s2, s3, x0, x1, hbl⟩
              have HBL := hide2 hbl
              clear hbl HT3
              generalize bstr Old = X at s1 s2 s3
              generalize bstr New = Y at s1 s2 s3
              go_wp2
              all_goals (go_ret; exact fin_all HBW HBL)
            · have HDd := hide2 hD
              clear hD HDn
              have HT := hide2 (tail_all HI.out HDd.out (by omega))
              clear HDd
              go_wp2_with fail
              refine Calls.mono HT.out ?_
              rintro ex wt ⟨rfl, hc⟩
              have HT2 := hide2 hc
              clear hc HT
              go_wp2_with fail
              refine Calls.mono HT2.out ?_
              rintro ex wu ⟨rfl, hc⟩
              have HT3 := hide2 hc
              clear hc HT2
              go_wp2_with fail
              refine Calls.mono HT3.out ?_
              rintro ex wv ⟨ab, nb, cb, rfl, s1, s2, s3, x0, x1, hbl⟩
              have HBL := hide2 hbl
              clear hbl HT3
              generalize bstr Old = X at s1 s2 s3
              generalize bstr New = Y at s1 s2 s3
              go_wp2
              all_goals (go_ret; exact fin_all HBW HBL)
            · have HDd := hide2 hD
              clear hD HDn
              have HT := hide2 (tail_all HI.out HDd.out (by omega))
              clear HDd
              go_wp2_with fail
              refine Calls.mono HT.out ?_
              rintro ex wt ⟨rfl, hc⟩
              have HT2 := hide2 hc
              clear hc HT
              go_wp2_with fail
              refine Calls.mono HT2.out ?_
              rintro ex wu ⟨rfl, hc⟩
              have HT3 := hide2 hc
              clear hc HT2
              go_wp2_with fail
              refine Calls.mono HT3.out ?_
              rintro ex wv ⟨ab, nb, cb, rfl, s1, s2, s3, x0, x1, hbl⟩
              have HBL := hide2 hbl
              clear hbl HT3
              generalize bstr Old = X at s1 s2 s3
              generalize bstr New = Y at s1 s2 s3
              by_cases hXY : Y = X
              · subst hXY
                go_wp2
                all_goals (go_ret; exact fin_all HBW HBL)
              · go_wp2
                all_goals (go_ret; exact fin_all HBW HBL)
          · have HDn := hide2 hD
            clear hD HDs
            have HT := hide2 (tail_all HI.out HDn.out (by omega))
            clear HDn
            go_wp2_with fail
            refine Calls.mono HT.out ?_
            rintro ex wt ⟨rfl, hc⟩
            have HT2 := hide2 hc
            clear hc HT
            go_wp2_with fail
            refine Calls.mono HT2.out ?_
            rintro ex wu ⟨rfl, hc⟩
            have HT3 := hide2 hc
            clear hc HT2
            go_wp2_with fail
            refine Calls.mono HT3.out ?_
            rintro ex wv ⟨ab, nb, cb, rfl, s1, s2, s3, x0, x1, hbl⟩
            have HBL := hide2 hbl
            clear hbl HT3
            generalize bstr Old = X at s1 s2 s3
            generalize bstr New = Y at s1 s2 s3
            go_wp2
            all_goals (go_ret; exact fin_all HBW HBL)
          · have HDn := hide2 hD
            clear hD HDs
            have HT := hide2 (tail_all HI.out HDn.out (by omega))
            clear HDn
            go_wp2_with fail
            refine Calls.mono HT.out ?_
            rintro ex wt ⟨rfl, hc⟩
            have HT2 := hide2 hc
            clear hc HT
            go_wp2_with fail
            refine Calls.mono HT2.out ?_
            rintro ex wu ⟨rfl, hc⟩
            have HT3 := hide2 hc
            clear hc HT2
            go_wp2_with fail
            refine Calls.mono HT3.out ?_
            rintro ex wv ⟨ab, nb, cb, rfl, s1, s2, s3, x0, x1, hbl⟩
            have HBL := hide2 hbl
            clear hbl HT3
            generalize bstr Old = X at s1 s2 s3
            generalize bstr New = Y at s1 s2 s3
            by_cases hXY : Y = X
            · subst hXY
              go_wp2
              all_goals (go_ret; exact fin_all HBW HBL)
            · go_wp2
              all_goals (go_ret; exact fin_all HBW HBL)
        · have HDs := hide2 hD
          clear hD HD
          have HT := hide2 (tail_all HI.out HDs.out (by omega))
          clear HDs
          go_wp2_with fail
          refine Calls.mono HT.out ?_
          rintro ex wt ⟨rfl, hc⟩
          have HT2 := hide2 hc
          clear hc HT
          go_wp2_with fail
          refine Calls.mono HT2.out ?_
          rintro ex wu ⟨rfl, hc⟩
          have HT3 := hide2 hc
          clear hc HT2
          go_wp2_with fail
          refine Calls.mono HT3.out ?_
          rintro ex wv ⟨ab, nb, cb, rfl, s1, s2, s3, x0, x1, hbl⟩
          have HBL := hide2 hbl
          clear hbl HT3
          generalize bstr Old = X at s1 s2 s3
          generalize bstr New = Y at s1 s2 s3
          go_wp2
          all_goals (go_ret; exact fin_all HBW HBL)
    · have HDs := hide2 hD
      clear hD HL
      have HT := hide2 (tail_all HI.out HDs.out (by omega))
      clear HDs
      go_wp2_with fail
      refine Calls.mono HT.out ?_
      rintro ex wt ⟨rfl, hc⟩
      have HT2 := hide2 hc
      clear hc HT
      go_wp2_with fail
      refine Calls.mono HT2.out ?_
      rintro ex wu ⟨rfl, hc⟩
      have HT3 := hide2 hc
      clear hc HT2
      go_wp2_with fail
      refine Calls.mono HT3.out ?_
      rintro ex wv ⟨ab, nb, cb, rfl, s1, s2, s3, x0, x1, hbl⟩
      have HBL := hide2 hbl
      clear hbl HT3
      generalize bstr Old = X at s1 s2 s3
      generalize bstr New = Y at s1 s2 s3
      go_wp2
      all_goals (go_ret; exact fin_all HBW HBL)
end Go.Proofs.Ytkmohpdcchpndaa

/-
  DiskBegins: what lasts of a file, and what the document holds beside the disk.
-/
namespace Go.Proofs.Ytkmohpdcchpndaa
open Go.RowKit Go.Maps
set_option linter.unusedVariables false
set_option linter.unusedSimpArgs false
set_option maxRecDepth 100000
theorem pick_rnd (c : Int) (most : Nat) : pick c most = rnd c ((most : Int) + 1) := by
  have hm : (0 : Int) < (most : Int) + 1 := by omega
  have h1 : c.tmod ((most : Int) + 1) < (most : Int) + 1 := Int.tmod_lt_of_pos c hm
  have h2 : -((most : Int) + 1) < c.tmod ((most : Int) + 1) := by
    by_cases hc : 0 ≤ c
    · have := Int.tmod_nonneg ((most : Int) + 1) hc; omega
    · have := Int.tmod_lt_of_pos (-c) hm
      rw [Int.neg_tmod] at this; omega
  unfold pick rnd
  generalize c.tmod ((most : Int) + 1) = r at *
  by_cases hr : r < 0
  · rw [if_pos hr]
    exact Int.tmod_eq_of_lt (by omega) (by omega)
  · rw [if_neg hr, Int.tmod_eq_emod_of_nonneg (by omega), Int.add_emod_right]
    exact Int.emod_eq_of_lt (by omega) h1
/-- so many are kept -/
def keptN (l : List Fc) (keep : Int) : Nat := (rnd keep ((l.length : Int) + 1)).toNat
theorem keptN_le (l : List Fc) (keep : Int) : keptN l keep ≤ l.length ∧ (rnd keep ((l.length : Int) + 1)) = (keptN l keep : Nat) := by
  have := rnd_range keep ((l.length : Int) + 1) (by omega)
  unfold keptN
  omega
/-- what lasts -/
def begun (b : List Int) (l : List Fc) (keep torn : Int) : List Int :=
  match l[keptN l keep]? with
  | some (.wr at_ p) => over (chgAll b (l.take (keptN l keep))) at_ (p.take (rnd torn ((p.length : Int) + 1)).toNat)
  | _ => chgAll b (l.take (keptN l keep))
theorem begins_last (b now : List Int) (l : List Fc) (keep torn : Int) : (lastF ⟨b, l, now⟩ [0, keep, torn] (nxt [0, keep, torn] 0)).1 = begun b l keep torn := by
  have e1 : nxt [0, keep, torn] 0 = 1 := rfl
  have e2 : nxt [0, keep, torn] 1 = 2 := rfl
  have e3 : (chosen [0, keep, torn] 1 l.length).toNat = keptN l keep := by
    show (pick keep l.length).toNat = _
    rw [pick_rnd]; rfl
  unfold lastF begun
  simp only [e1, e2, e3]
  cases hc : l[keptN l keep]? with
  | none => rfl
  | some c =>
    cases c with
    | ct k => rfl
    | wr at_ p =>
      show over _ at_ (p.take (pick torn p.length).toNat) = _
      rw [pick_rnd]
/-- memory turned: but for the disk's own blocks and one more, all is as it was -/
structure Tr (W W' : World) (own own' : Nat → Prop) (x : Option Nat) : Prop where
  size : W.heap.size ≤ W'.heap.size
  block : ∀ k, k < W.heap.size → ¬ own k → x ≠ some k → W'.heap[k]? = W.heap[k]?
  sub : ∀ k, own' k → own k ∨ W.heap.size ≤ k
theorem Fr.tr {W W' : World} {own own' : Nat → Prop} (h : Fr W W' own own') : Tr W W' own own' none := ⟨h.size, fun k hk hn _ => h.block k hk hn, h.sub⟩
theorem tr_below {W W' : World} (h : Below W.heap.size W W') (own : Nat → Prop) : Tr W W' own own none := (Fr.below h own).tr
theorem tr_grown {W W' : World} {x : Option Nat} (h : W.grownBy W' x) (own : Nat → Prop) : Tr W W' own own x := ⟨h.size, fun k hk _ hx => h.block k hk (Ne.symm hx), fun _ h => .inl h⟩
/-- bytes of the document's, apart from the disk -/
structure Hb (W : World) (own : Nat → Prop) (B : Nat) (v : Value) (zs : List Int) : Prop where
  buf : Buf W B v zs
  off : ∀ k, v.ownBlock = some k → ¬ own k
/-- a row of the document's, apart from the disk -/
structure Hr (W : World) (own : Nat → Prop) (B : Nat) (e : TypeId) (size : Nat) (v : Value) (n : Nat) (xs : List Value) : Prop where
  row : W.ownsRow B e size v n xs
  off : ∀ k, v.ownBlock = some k → ¬ own k
theorem row_typ {W : World} {B : Nat} {e : TypeId} {size : Nat} {v : Value} {n : Nat} {xs : List Value} (h : W.ownsRow B e size v n xs) {k : Nat} (hk : v.ownBlock = some k) : ∃ cur, W.heap[k]? = some (.cells cur e (0, 0)) := by
  rcases h.2 with ⟨rfl, _⟩ | ⟨g, cap, cur, rfl, _, hg, _⟩
  · cases hk
  · cases hk; exact ⟨cur, hg⟩
/-- the block x, if any, is a row of such elements -/
def OfT (W : World) (x : Option Nat) (e : TypeId) : Prop := ∀ k, x = some k → ∃ cur, W.heap[k]? = some (.cells cur e (0, 0))
theorem OfT.none (W : World) (e : TypeId) : OfT W none e := fun k h => by cases h
theorem Hb.tr {W W' : World} {own own' : Nat → Prop} {B : Nat} {v : Value} {zs : List Int} {x : Option Nat} {e : TypeId} (h : Hb W own B v zs) (ht : Tr W W' own own' x) (hx : OfT W x e) (he : e ≠ 5) : Hb W' own' B v zs := by
  refine ⟨h.buf.keep fun k hk => ht.block k (h.buf.low hk).2 (h.off k hk) fun e1 => ?_, fun k hk h' => (ht.sub k h').elim (h.off k hk) fun h2 => by have := (h.buf.low hk).2; omega⟩
  obtain ⟨c1, q1⟩ := h.buf.typ hk
  obtain ⟨c2, q2⟩ := hx k e1
  rw [q1] at q2
  cases q2
  exact he rfl
theorem Hr.tr {W W' : World} {own own' : Nat → Prop} {B : Nat} {e : TypeId} {size : Nat} {v : Value} {n : Nat} {xs : List Value} {x : Option Nat} {e' : TypeId} (h : Hr W own B e size v n xs) (ht : Tr W W' own own' x) (hx : OfT W x e') (he : e' ≠ e) : Hr W' own' B e size v n xs := by
  refine ⟨own_blk' h.row fun k hk => ht.block k (h.row.lt k hk).2 (h.off k hk) fun e1 => ?_, fun k hk h' => (ht.sub k h').elim (h.off k hk) fun h2 => by have := (h.row.lt k hk).2; omega⟩
  obtain ⟨c1, q1⟩ := row_typ h.row hk
  obtain ⟨c2, q2⟩ := hx k e1
  rw [q1] at q2
  cases q2
  exact he rfl
/-- a change as the document's list has it -/
structure DoneOp (wB : World) (os : List Value) (j : Nat) (kd nn : Int) (a : Option Addr) (n cap : Nat) (zs : List Int) (c : Fc) : Prop where
  kd_ : os[7 * j]? = some (.int .i64 kd)
  nn_ : os[7 * j + 3]? = some (.int .i64 nn)
  da_ : os[7 * j + 4]? = some (.slice a n cap)
  bin : Bin wB a n cap zs
  few : n ≤ 4096
  is : (kd = 1 ∧ ∃ at_ : Nat, nn = (at_ : Int) ∧ c = .wr at_ zs) ∨ (kd = 2 ∧ ∃ k : Nat, nn = (k : Int) ∧ c = .ct k)
/-- what the document holds beside the disk: the bytes, their states, the changes -/
structure Bg (wB W : World) (own : Nat → Prop) (Base : List Int) (l : List Fc) (v8 v9 v10 : Value) (ss os : List Value) : Prop where
  now : Hb W own wB.heap.size v8 (chgAll Base l)
  st : Hr W own wB.heap.size 32 1 v9 (l.length + 1) ss
  sts : ∀ j, j ≤ l.length → ∃ v, ss[j]? = some v ∧ Hb W own wB.heap.size v (chgAll Base (l.take j))
  dn : Hr W own wB.heap.size 46 7 v10 l.length os
  ds : ∀ j c, l[j]? = some c → ∃ kd nn a n cap zs, DoneOp wB os j kd nn a n cap zs c
theorem Bg.tr {wB W W' : World} {own own' : Nat → Prop} {Base : List Int} {l : List Fc} {v8 v9 v10 : Value} {ss os : List Value} (h : Bg wB W own Base l v8 v9 v10 ss os) (ht : Tr W W' own own' none) : Bg wB W' own' Base l v8 v9 v10 ss os :=
  ⟨h.now.tr ht (OfT.none W 46) (by decide), h.st.tr ht (OfT.none W 46) (by decide), fun j hj => (h.sts j hj).imp fun v ⟨e, q⟩ => ⟨e, q.tr ht (OfT.none W 46) (by decide)⟩, h.dn.tr ht (OfT.none W 32) (by decide), h.ds⟩
theorem chgAll_snoc (b : List Int) (l : List Fc) (c : Fc) : chgAll b (l ++ [c]) = c.do (chgAll b l) c.size := by simp [chgAll]
/-- one change more: the bytes are new, both lists have grown -/
theorem Bg.more {wB W W1 W2 : World} {own : Nat → Prop} {Base : List Int} {l : List Fc} {v8 v9 v10 v8' v9' v10' : Value} {ss os ns : List Value} {c : Fc} (h : Bg wB W own Base l v8 v9 v10 ss os) (hnow : Hb W own wB.heap.size v8' (chgAll Base (l ++ [c])))
    (hr1 : W1.ownsRow wB.heap.size 46 7 v10' (l.length + 1) (os ++ ns)) (hg1 : W.grownBy W1 v10.ownBlock) (ho1 : ∀ k, v10'.ownBlock = some k → ¬ own k)
    (hr2 : W2.ownsRow wB.heap.size 32 1 v9' (l.length + 1 + 1) (ss ++ [v8'])) (hg2 : W1.grownBy W2 v9.ownBlock) (ho2 : ∀ k, v9'.ownBlock = some k → ¬ own k)
    {kd nn : Int} {a : Option Addr} {n cap : Nat} {zs : List Int} (hd : DoneOp wB (os ++ ns) l.length kd nn a n cap zs c) : Bg wB W2 own Base (l ++ [c]) v8' v9' v10' (ss ++ [v8']) (os ++ ns) := by
  have t1 := tr_grown hg1 own
  have t2 := tr_grown hg2 own
  have x1 : OfT W v10.ownBlock 46 := fun k hk => row_typ h.dn.row hk
  have st1 := h.st.tr t1 x1 (by decide)
  have x2 : OfT W1 v9.ownBlock 32 := fun k hk => row_typ st1.row hk
  have bb : ∀ {v : Value} {z : List Int}, Hb W own wB.heap.size v z → Hb W2 own wB.heap.size v z := fun q => (q.tr t1 x1 (by decide)).tr t2 x2 (by decide)
  have hlen : (l ++ [c]).length = l.length + 1 := by simp
  have hsl : ss.length = l.length + 1 := by have := h.st.row.1; omega
  have hol : os.length = l.length * 7 := h.dn.row.1
  refine ⟨bb hnow, ⟨by rw [hlen]; exact hr2, ho2⟩, fun j hj => ?_, ⟨by rw [hlen]; exact (Hr.tr ⟨hr1, ho1⟩ t2 x2 (by decide)).row, ho1⟩, fun j d hj => ?_⟩
  · by_cases hjl : j ≤ l.length
    · obtain ⟨v, e, q⟩ := h.sts j hjl
      refine ⟨v, by rw [List.getElem?_append_left (by omega)]; exact e, ?_⟩
      rw [List.take_append_of_le_length hjl]
      exact bb q
    · have hj' : j = l.length + 1 := by omega
      subst hj'
      refine ⟨v8', by rw [List.getElem?_append_right (by omega), hsl]; simp, ?_⟩
      rw [List.take_of_length_le (by simp)]
      exact bb hnow
  · by_cases hjl : j < l.length
    · rw [List.getElem?_append_left hjl] at hj
      obtain ⟨kd', nn', a', n', cap', zs', q⟩ := h.ds j d hj
      exact ⟨kd', nn', a', n', cap', zs', by rw [List.getElem?_append_left (by omega)]; exact q.kd_, by rw [List.getElem?_append_left (by omega)]; exact q.nn_, by rw [List.getElem?_append_left (by omega)]; exact q.da_, q.bin, q.few, q.is⟩
    · have hlt := (List.getElem?_eq_some_iff.1 hj).1
      have hj' : j = l.length := by simp at hlt; omega
      subst hj'
      rw [List.getElem?_append_right (Nat.le_refl _)] at hj
      simp at hj
      subst hj
      exact ⟨kd, nn, a, n, cap, zs, hd⟩
end Go.Proofs.Ytkmohpdcchpndaa

/-
  DiskBegins: a round's change, done with the disk and put down.
-/
namespace Go.Proofs.Ytkmohpdcchpndaa
open Go.RowKit Go.Maps
set_option linter.unusedVariables false
set_option linter.unusedSimpArgs false
set_option maxRecDepth 100000
/-- so far -/
def Lb (wB W : World) (Base : List Int) (i : Nat) (v8 v9 v10 : Value) : Prop := ∃ l ss os N own, OneR W wB.heap.size wB.heap.size nF 1048576 ⟨Base, l, chgAll Base l⟩ True N own ∧ (∀ k, own k → wB.heap.size ≤ k) ∧ Below wB.heap.size wB W ∧ Bg wB W own Base l v8 v9 v10 ss os ∧ l.length ≤ i ∧ (chgAll Base l).length ≤ 4096 * (i + 1) ∧ N ≤ 2 + i
theorem Lb.below {wB W W' : World} {Base : List Int} {i : Nat} {v8 v9 v10 : Value} (h : Lb wB W Base i v8 v9 v10) (hb : Below W.heap.size W W') : Lb wB W' Base (i + 1) v8 v9 v10 := by
  obtain ⟨l, ss, os, N, own, h1, h2, h3, h4, h5, h6, h7⟩ := h
  exact ⟨l, ss, os, N, own, h1.below hb, h2, h3.trans (hb.mono h3.size), h4.tr (tr_below hb own), by omega, by omega, by omega⟩
theorem grown_alloc {w w' : World} {O : Obj} {x : Option Nat} (h : (w.alloc O).grownBy w' x) : w.grownBy w' x :=
  ⟨h.os, h.tape, h.output, Nat.le_trans (by simp) h.size, fun k hk hx => (h.block k (by simp; omega) hx).trans (Below.heap_alloc w O k hk)⟩
theorem Buf.has' {w : World} {B : Nat} {a : Option Addr} {n c : Nat} {zs : List Int} (h : Buf w B (.slice a n c) zs) : Has w a zs := by
  obtain ⟨ao, cap, e, _, hh, _⟩ := h.form
  cases e
  exact hh
theorem lb_more {wB w1 w2 w3 w4 : World} {own1 : Nat → Prop} {Base : List Int} {l : List Fc} {c : Fc} {v8 u9 u10 v8' u9' u10' : Value} {ss os ns : List Value} {i N : Nat} {O1 O2 : Obj}
    (hO1 : OneR w1 wB.heap.size wB.heap.size nF 1048576 ⟨Base, l ++ [c], chgAll Base (l ++ [c])⟩ True (N + 1) own1) (hlow : ∀ k, own1 k → wB.heap.size ≤ k) (hbel : Below wB.heap.size wB w1) (hBg : Bg wB w1 own1 Base l v8 u9 u10 ss os)
    (hb2 : Below w1.heap.size w1 w2) (hB8 : Buf w2 w1.heap.size v8' (chgAll Base (l ++ [c])))
    (hr3 : w3.ownsRow wB.heap.size 46 7 u10' (l.length + 1) (os ++ ns)) (hg3 : (w2.alloc O1).grownBy w3 u10.ownBlock) (ht3 : u10'.ownBlock = u10.ownBlock ∨ u10'.ownBlock = some (w2.alloc O1).heap.size)
    (hr4 : w4.ownsRow wB.heap.size 32 1 u9' (l.length + 1 + 1) (ss ++ [v8'])) (hg4 : (w3.alloc O2).grownBy w4 u9.ownBlock) (ht4 : u9'.ownBlock = u9.ownBlock ∨ u9'.ownBlock = some (w3.alloc O2).heap.size)
    {kd nn : Int} {a : Option Addr} {n cap : Nat} {zs : List Int} (hd : DoneOp wB (os ++ ns) l.length kd nn a n cap zs c) (hl : l.length ≤ i) (hsz : (chgAll Base (l ++ [c])).length ≤ 4096 * (i + 1 + 1)) (hN : N ≤ 2 + i) : Lb wB w4 Base (i + 1) v8' u9' u10' := by
  have hg3' := grown_alloc hg3
  have hg4' := grown_alloc hg4
  have hBg2 := hBg.tr (tr_below hb2 own1)
  have hs1 : w1.heap.size ≤ w2.heap.size := hb2.size
  have hs2 : w2.heap.size ≤ w3.heap.size := hg3'.size
  have hnow : Hb w2 own1 wB.heap.size v8' (chgAll Base (l ++ [c])) := ⟨hB8.base hbel.size, fun k hk h' => by have := (hB8.low hk).1; have := hO1.lt h'; omega⟩
  have ho3 : ∀ k, u10'.ownBlock = some k → ¬ own1 k := fun k hk h' => by
    rcases ht3 with e | e
    · exact hBg.dn.off k (e ▸ hk) h'
    · rw [e] at hk; cases hk
      have h9 := hO1.lt h'; simp at h9; omega
  have ho4 : ∀ k, u9'.ownBlock = some k → ¬ own1 k := fun k hk h' => by
    rcases ht4 with e | e
    · exact hBg.st.off k (e ▸ hk) h'
    · rw [e] at hk; cases hk
      have h9 := hO1.lt h'; simp at h9; omega
  have hBg4 := hBg2.more hnow hr3 hg3' ho3 hr4 hg4' ho4 hd
  have hB2 : Below wB.heap.size wB w2 := hbel.trans (hb2.mono hbel.size)
  have hB3 : Below wB.heap.size wB w3 := hB2.grown hg3' hB2.size (fun k hk => (hBg2.dn.row.lt k hk).1)
  have st3 := hBg2.st.tr (tr_grown hg3' own1) (fun k hk => row_typ hBg2.dn.row hk) (by decide)
  have hB4 : Below wB.heap.size wB w4 := hB3.grown hg4' hB3.size (fun k hk => (st3.row.lt k hk).1)
  refine ⟨l ++ [c], ss ++ [v8'], os ++ ns, N + 1, own1, hO1.keep (Nat.le_trans hs1 (Nat.le_trans hs2 hg4'.size)) fun k hk ho => ?_, hlow, hB4, hBg4, by simp; omega, hsz, by omega⟩
  rw [hg4'.block k (by omega) (fun e => hBg.st.off k e.symm ho), hg3'.block k (by omega) (fun e => hBg.dn.off k e.symm ho), hb2.block k hk]
end Go.Proofs.Ytkmohpdcchpndaa
