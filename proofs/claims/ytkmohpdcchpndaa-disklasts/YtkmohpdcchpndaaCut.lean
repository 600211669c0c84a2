/-
  A file of a disk is cut.
-/
import Derived.Test.YtkmohpdcchpndaaDk2
namespace Go.Proofs.Ytkmohpdcchpndaa
open Go.RowKit
set_option linter.unusedVariables false
set_option linter.unusedSimpArgs false
set_option maxRecDepth 100000
theorem Kt.below {w w' : World} (h : Below w.heap.size w w') (d : Nat) (x : Dr) (am : Option Am) (es : List En) : Kt w w' d x am es x am es := ⟨h.os, h.tape, h.output, h.size, fun k hk _ => h.block k hk, fun _ h => .inl h⟩
theorem Fv.base {w : World} {b b' : Nat} {c : Fc} {d : Value} {ro : List Nat} (h : Fv w b c d ro) (hb : b' ≤ b) : Fv w b' c d ro := by
  cases c with
  | wr at_ p =>
    obtain ⟨ab, pb, ao, cap, rfl, h1, h2, h3, h4, h5, rfl⟩ := h
    exact ⟨ab, pb, ao, cap, rfl, h1, h2, h3.base hb, by omega, by omega, rfl⟩
  | ct k =>
    obtain ⟨ab, rfl, h1, h2, rfl⟩ := h
    exact ⟨ab, rfl, h1, by omega, rfl⟩
/-- the answer of an operation -/
abbrev Ans (n : Nat) (args : Array Value) (w : World) (Q : Int → World → Prop) : Prop := Calls Try.prog n args w fun e w' => ∃ v, e = .returned (.int .i64 v) ∧ Q v w'
/-- find is refused: so is what asks it -/
theorem cut_bad (p : Option Addr) (nm : ByteArray) (n E : Int) (w : World) (h : Calls Try.prog 30 #[.pointer p, .string nm] w fun e w' => e = .returned (.tuple #[.pointer none, .int .i64 E]) ∧ Below w.heap.size w w') (hE : (E == 0) = false) : Ans 22 #[.pointer p, .string nm, .int .i64 n] w fun v w' => v = E ∧ Below w.heap.size w w' := by
  have HC : Hid (Calls Try.prog 30 #[.pointer p, .string nm] w fun e w' => e = .returned (.tuple #[.pointer none, .int .i64 E]) ∧ Below w.heap.size w w') := h
  clear h
  go_enter Try.func22, Try.ntmps22
  go_wp2_with (first | (go_at_call 30; refine HC.out.mono ?_; rintro e w1 ⟨rfl, hb⟩; have HB : Hid (Below w.heap.size w w1) := hb; clear hb))
  go_ret
  exact ⟨E, rfl, rfl, HB.out⟩
theorem cut_arg (p : Option Addr) (nm : ByteArray) (n : Int) (base fb : Nat) (f : Fs) (w : World) (h : Calls Try.prog 30 #[.pointer p, .string nm] w fun e w' => e = .returned (.tuple #[.pointer (some ⟨fb, 0, none⟩), .int .i64 0]) ∧ Below w.heap.size w w') (hf : Fil w base fb f) (hn : n < 0 ∨ (f.now.length : Int) < n) : Ans 22 #[.pointer p, .string nm, .int .i64 n] w fun v w' => v = 2 ∧ Below w.heap.size w w' := by
  obtain ⟨ao, cap, hnv, hbare, hh, _⟩ := hf.now.form
  have hblk := hf.blk
  rw [hnv] at hblk
  obtain ⟨L, hL⟩ : ∃ L, f.now.length = L := ⟨_, rfl⟩
  rw [hL] at hblk hn
  have HC : Hid (Calls Try.prog 30 #[.pointer p, .string nm] w fun e w1 => e = .returned (.tuple #[.pointer (some ⟨fb, 0, none⟩), .int .i64 0]) ∧ w1.cell? ⟨fb, 2, none⟩ = some (.slice ao L cap) ∧ Below w.heap.size w w1) := h.mono fun e w1 ⟨he, hb⟩ =>
    ⟨he, by rw [cell_block ((hb.block fb (lt_of_block hblk)).trans hblk)]; rfl, hb⟩
  clear h hf hh hblk hnv hL hbare
  by_cases h0 : n < 0
  · go_enter Try.func22, Try.ntmps22
    go_wp2_with (first | (go_at_call 30; refine HC.out.mono ?_; rintro e w1 ⟨rfl, x0, hb⟩; have HB : Hid (Below w.heap.size w w1) := hb; clear hb))
    go_ret
    exact ⟨2, rfl, rfl, HB.out⟩
  · have h1 : (L : Int) < n := by omega
    go_enter Try.func22, Try.ntmps22
    go_wp2_with (first | (go_at_call 30; refine HC.out.mono ?_; rintro e w1 ⟨rfl, x0, hb⟩; have HB : Hid (Below w.heap.size w w1) := hb; clear hb))
    go_ret
    exact ⟨2, rfl, rfl, HB.out⟩
theorem cut_ok (w : World) (base d : Nat) (x : Dr) (am : Option Am) (fo : Option (DataW Unit)) (nf made : Nat) (es : List En) (lab : Nat → Nat) (h : Dk w base d x am fo nf made es lab) (e : En) (he : e ∈ es) (hup : x.c1 = .bool false) (nm : ByteArray) (hnm : nmOk nm) (hs : nm.size ≤ maxLen) (hh : Has1 x.now nm e.num) (hmade : made ≤ 1000000000) (n : Nat) (hn : n ≤ e.f.now.length) (hls : e.f.ls.length ≤ 1000000000) (hlen : e.f.now.length ≤ 1099511627776) (hbase : base ≤ w.heap.size) (Q : Int → World → Prop)
    (hD : ∀ w1 f' lab' dv ro, Dk w1 base d x am fo nf made (setf es e.num f') lab' → Kt w w1 d x am es x am (setf es e.num f') → (∀ k ∈ ro, w.heap.size ≤ k) → f'.last = e.f.last → f'.now = e.f.now.take n → f'.ls = e.f.ls ++ [⟨dv, .ct n, ro⟩] → Ans 34 #[.pointer (some ⟨d, 0, none⟩)] w1 Q) :
    Ans 22 #[.pointer (some ⟨d, 0, none⟩), .string nm, .int .i64 n] w Q := by
  obtain ⟨hat, hnum⟩ := h.at_ e he
  obtain ⟨fb, hfb⟩ : ∃ fb, e.b = fb := ⟨_, rfl⟩
  obtain ⟨ao, cap, hnv, hbare, hhas, _⟩ := (h.fil e he).now.form
  have hblk := (h.fil e he).blk
  rw [hnv, hfb] at hblk
  obtain ⟨L, hL⟩ : ∃ L, e.f.now.length = L := ⟨_, rfl⟩
  rw [hL] at hblk
  have HC : Hid (Calls Try.prog 30 #[.pointer (some ⟨d, 0, none⟩), .string nm] w fun ex w1 => ex = .returned (.tuple #[.pointer (some ⟨fb, 0, none⟩), .int .i64 0]) ∧ w1.cell? ⟨fb, 2, none⟩ = some (.slice ao L cap) ∧ Calls Try.prog 49 #[.int .i64 n] w1 fun ex w2 => ∃ dv, ex = .returned (.agg #[dv, .int .i64 0, .bool false]) ∧ Calls Try.prog 46 #[.pointer (some ⟨fb, 0, none⟩), .agg #[dv, .int .i64 0, .bool false]] w2 fun ex w3 => ex = .returned (.tuple #[]) ∧ Ans 34 #[.pointer (some ⟨d, 0, none⟩)] w3 Q) := by
    refine (find_ok base d x nm fo nf e.num e.b w h.dir h.fm hup hnm hs hh hat (by omega)).mono ?_
    rintro ex w1 ⟨rfl, hb⟩
    refine ⟨by rw [hfb], by rw [cell_block ((hb.block fb (lt_of_block hblk)).trans hblk)]; rfl, (cutting_any w1 n).mono ?_⟩
    rintro ex w2 ⟨dv, ro, rfl, hv, hb2⟩
    have k1 := h.below hb
    have k2 := k1.below hb2
    have b2 : base ≤ w1.heap.size := Nat.le_trans hbase hb.size
    have hro : ∀ k ∈ ro, w1.heap.size ≤ k ∧ k < w2.heap.size := hv.lt
    refine ⟨dv, rfl, ?_⟩
    have hf2 := k2.fil e he
    have hch := fchange_ct w2 base e.b e.f n dv ro hf2 (hv.base b2) (fun k hk hm => by have := ((k1.fil e he).lt k hm).2; have := (hro k hk).1; omega) hn (by simp [Fc.size]; omega) hls (Nat.le_trans b2 hb2.size)
    rw [hfb] at hch
    refine hch.mono ?_
    rintro ex w3 ⟨rfl, f', t, e1, e2, e3⟩
    rw [← hfb] at t
    have hrp : Rp f'.last f'.ls f'.now := by
      rw [e1, e2, e3]
      exact (h.rp e he).app ⟨dv, .ct n, ro⟩ hn (by simp [Fc.size]) (by simp [Fc.do]; omega)
    obtain ⟨k3, kt⟩ := k2.file he t hrp (fun c hc => by
      rw [e3, List.mem_append, List.mem_singleton] at hc
      rcases hc with hc | rfl
      · exact .inl hc
      · exact .inr fun k hk => ⟨(hro k hk).2, relab_new (hro k hk).1⟩)
    exact ⟨rfl, hD w3 f' _ dv ro k3 ((Kt.below hb d x am es).trans ((Kt.below hb2 d x am es).trans kt)) (fun k hk => Nat.le_trans hb.size (hro k hk).1) e1 e2 e3⟩
  have hn' : ¬ ((L : Int) < (n : Int)) := by omega
  clear hD h hat hnum hnv hbare hhas hblk hh
  go_enter Try.func22, Try.ntmps22
  go_wp2_with (first | (go_at_call 30; refine HC.out.mono ?_; rintro ex w1 ⟨rfl, x0, hc⟩; have HC2 : Hid (Calls Try.prog 49 #[.int .i64 n] w1 fun ex w2 => ∃ dv, ex = .returned (.agg #[dv, .int .i64 0, .bool false]) ∧ Calls Try.prog 46 #[.pointer (some ⟨fb, 0, none⟩), .agg #[dv, .int .i64 0, .bool false]] w2 fun ex w3 => ex = .returned (.tuple #[]) ∧ Ans 34 #[.pointer (some ⟨d, 0, none⟩)] w3 Q) := hc; clear hc) | (go_at_call 49; refine HC2.out.mono ?_; rintro ex w2 ⟨dv, rfl, hc⟩; have HC3 : Hid (Calls Try.prog 46 #[.pointer (some ⟨fb, 0, none⟩), .agg #[dv, .int .i64 0, .bool false]] w2 fun ex w3 => ex = .returned (.tuple #[]) ∧ Ans 34 #[.pointer (some ⟨d, 0, none⟩)] w3 Q) := hc; clear hc) | (go_at_call 46; refine HC3.out.mono ?_; rintro ex w3 ⟨rfl, hc⟩; have HC4 : Hid (Ans 34 #[.pointer (some ⟨d, 0, none⟩)] w3 Q) := hc; clear hc) | (go_at_call 34; refine HC4.out.mono ?_; rintro ex w4 ⟨v, rfl, hq⟩; have HQ : Hid (Q v w4) := hq; clear hq))
  go_ret
  exact ⟨v, rfl, HQ.out⟩
end Go.Proofs.Ytkmohpdcchpndaa
