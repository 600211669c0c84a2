/-
  A file of a disk is synced.
-/
import Derived.Test.YtkmohpdcchpndaaCut
import Derived.Test.YtkmohpdcchpndaaSync
namespace Go.Proofs.Ytkmohpdcchpndaa
open Go.RowKit
set_option linter.unusedVariables false
set_option linter.unusedSimpArgs false
set_option maxRecDepth 100000
def goesB : Option Am → Bool
  | none => false
  | some a => a.after == 0
theorem goes_dk {w : World} {base d : Nat} {x : Dr} {am : Option Am} {fo : Option (DataW Unit)} {nf made : Nat} {es : List En} {lab : Nat → Nat} (h : Dk w base d x am fo nf made es lab) : Calls Try.prog 31 #[.pointer (some ⟨d, 0, none⟩)] w fun e w' => e = .returned (.bool (goesB am)) ∧ w' = w := by
  have h2 : w.cell? ⟨d, 2, none⟩ = some x.c2 := by rw [cell_block h.dir.blk]; rfl
  rw [h.c2] at h2
  cases am with
  | none => exact goes_none d w h2
  | some a =>
    obtain ⟨t, hb⟩ := (h.arm a rfl).blk
    exact goes_some d a.b a.after w h2 (by rw [cell_block hb]; rfl)
theorem sync_bad (p : Option Addr) (nm : ByteArray) (E : Int) (w : World) (h : Calls Try.prog 30 #[.pointer p, .string nm] w fun e w' => e = .returned (.tuple #[.pointer none, .int .i64 E]) ∧ Below w.heap.size w w') (hE : (E == 0) = false) : Ans 21 #[.pointer p, .string nm] w fun v w' => v = E ∧ Below w.heap.size w w' := by
  have HC : Hid (Calls Try.prog 30 #[.pointer p, .string nm] w fun e w' => e = .returned (.tuple #[.pointer none, .int .i64 E]) ∧ Below w.heap.size w w') := h
  clear h
  go_enter Try.func21, Try.ntmps21
  go_wp2_with (first | (go_at_call 30; refine HC.out.mono ?_; rintro e w1 ⟨rfl, hb⟩; have HB : Hid (Below w.heap.size w w1) := hb; clear hb))
  go_ret
  exact ⟨E, rfl, rfl, HB.out⟩
theorem sync_off (w : World) (base d : Nat) (x : Dr) (am : Option Am) (fo : Option (DataW Unit)) (nf made : Nat) (es : List En) (lab : Nat → Nat) (h : Dk w base d x am fo nf made es lab) (e : En) (he : e ∈ es) (hup : x.c1 = .bool false) (nm : ByteArray) (hnm : nmOk nm) (hs : nm.size ≤ maxLen) (hh : Has1 x.now nm e.num) (hmade : made ≤ 1000000000) (hgo : goesB am = true) (Q : Int → World → Prop)
    (hD : ∀ w1 lab', Dk w1 base d x am fo nf made es lab' → Kt w w1 d x am es x am es → Ans 34 #[.pointer (some ⟨d, 0, none⟩)] w1 Q) :
    Ans 21 #[.pointer (some ⟨d, 0, none⟩), .string nm] w Q := by
  obtain ⟨hat, hnum⟩ := h.at_ e he
  obtain ⟨fb, hfb⟩ : ∃ fb, e.b = fb := ⟨_, rfl⟩
  have HC : Hid (Calls Try.prog 30 #[.pointer (some ⟨d, 0, none⟩), .string nm] w fun ex w1 => ex = .returned (.tuple #[.pointer (some ⟨fb, 0, none⟩), .int .i64 0]) ∧ (Calls Try.prog 31 #[.pointer (some ⟨d, 0, none⟩)] w1 fun ex w2 => ex = .returned (.bool true) ∧ w2 = w1) ∧ Ans 34 #[.pointer (some ⟨d, 0, none⟩)] w1 Q) := by
    refine (find_ok base d x nm fo nf e.num e.b w h.dir h.fm hup hnm hs hh hat (by omega)).mono ?_
    rintro ex w1 ⟨rfl, hb⟩
    have k1 := h.below hb
    exact ⟨by rw [hfb], hgo ▸ goes_dk k1, hD w1 _ k1 (Kt.below hb d x am es)⟩
  clear hD h hat hnum hh
  go_enter Try.func21, Try.ntmps21
  go_wp2_with (first | (go_at_call 30; refine HC.out.mono ?_; rintro ex w1 ⟨rfl, hc, hq⟩; have HC2 : Hid (Calls Try.prog 31 #[.pointer (some ⟨d, 0, none⟩)] w1 fun ex w2 => ex = .returned (.bool true) ∧ w2 = w1) := hc; have HC4 : Hid (Ans 34 #[.pointer (some ⟨d, 0, none⟩)] w1 Q) := hq; clear hc hq) | (go_at_call 31; refine HC2.out.mono ?_; rintro ex w2 ⟨rfl, rfl⟩) | (go_at_call 34; refine HC4.out.mono ?_; rintro ex w4 ⟨v, rfl, hq⟩; have HQ : Hid (Q v w4) := hq; clear hq))
  go_ret
  exact ⟨v, rfl, HQ.out⟩
theorem sync_ok (w : World) (base d : Nat) (x : Dr) (am : Option Am) (fo : Option (DataW Unit)) (nf made : Nat) (es : List En) (lab : Nat → Nat) (h : Dk w base d x am fo nf made es lab) (e : En) (he : e ∈ es) (hup : x.c1 = .bool false) (nm : ByteArray) (hnm : nmOk nm) (hs : nm.size ≤ maxLen) (hh : Has1 x.now nm e.num) (hmade : made ≤ 1000000000) (hls : e.f.ls.length ≤ 1000000000) (hlen : e.f.now.length ≤ 1099511627776) (hbase : base ≤ w.heap.size) (hgo : goesB am = false) (Q : Int → World → Prop)
    (hD : ∀ w1 f' lab', Dk w1 base d x am fo nf made (setf es e.num f') lab' → Kt w w1 d x am es x am (setf es e.num f') → f'.last = e.f.now → f'.now = e.f.now → f'.ls = [] → Ans 34 #[.pointer (some ⟨d, 0, none⟩)] w1 Q) :
    Ans 21 #[.pointer (some ⟨d, 0, none⟩), .string nm] w Q := by
  obtain ⟨hat, hnum⟩ := h.at_ e he
  obtain ⟨fb, hfb⟩ : ∃ fb, e.b = fb := ⟨_, rfl⟩
  have HC : Hid (Calls Try.prog 30 #[.pointer (some ⟨d, 0, none⟩), .string nm] w fun ex w1 => ex = .returned (.tuple #[.pointer (some ⟨fb, 0, none⟩), .int .i64 0]) ∧ (Calls Try.prog 31 #[.pointer (some ⟨d, 0, none⟩)] w1 fun ex w2 => ex = .returned (.bool false) ∧ w2 = w1) ∧ Calls Try.prog 48 #[.pointer (some ⟨fb, 0, none⟩)] w1 fun ex w2 => ex = .returned (.tuple #[]) ∧ Ans 34 #[.pointer (some ⟨d, 0, none⟩)] w2 Q) := by
    refine (find_ok base d x nm fo nf e.num e.b w h.dir h.fm hup hnm hs hh hat (by omega)).mono ?_
    rintro ex w1 ⟨rfl, hb⟩
    have k1 := h.below hb
    refine ⟨by rw [hfb], hgo ▸ goes_dk k1, ?_⟩
    rw [← hfb]
    refine (sync_any w1 base e.b e.f (k1.fil e he) (h.rp e he) hls (Nat.le_trans hbase hb.size)).mono ?_
    rintro ex w2 ⟨rfl, f', t, e1, e2, e3⟩
    obtain ⟨k3, kt⟩ := k1.file he t (by rw [e1, e2, e3]; exact ⟨rfl, hlen⟩) (fun c hc => by rw [e3] at hc; cases hc)
    exact ⟨rfl, hD w2 f' _ k3 ((Kt.below hb d x am es).trans kt) e1 e2 e3⟩
  clear hD h hat hnum hh
  go_enter Try.func21, Try.ntmps21
  go_wp2_with (first | (go_at_call 30; refine HC.out.mono ?_; rintro ex w1 ⟨rfl, hc, hq⟩; have HC2 : Hid (Calls Try.prog 31 #[.pointer (some ⟨d, 0, none⟩)] w1 fun ex w2 => ex = .returned (.bool false) ∧ w2 = w1) := hc; have HC3 : Hid (Calls Try.prog 48 #[.pointer (some ⟨fb, 0, none⟩)] w1 fun ex w2 => ex = .returned (.tuple #[]) ∧ Ans 34 #[.pointer (some ⟨d, 0, none⟩)] w2 Q) := hq; clear hc hq) | (go_at_call 31; refine HC2.out.mono ?_; rintro ex w2 ⟨rfl, rfl⟩) | (go_at_call 48; refine HC3.out.mono ?_; rintro ex w3 ⟨rfl, hq⟩; have HC4 : Hid (Ans 34 #[.pointer (some ⟨d, 0, none⟩)] w3 Q) := hq; clear hq) | (go_at_call 34; refine HC4.out.mono ?_; rintro ex w4 ⟨v, rfl, hq⟩; have HQ : Hid (Q v w4) := hq; clear hq))
  go_ret
  exact ⟨v, rfl, HQ.out⟩
end Go.Proofs.Ytkmohpdcchpndaa
