/-
  The directory of a disk is synced.
-/
import Derived.Test.YtkmohpdcchpndaaFgt2
namespace Go.Proofs.Ytkmohpdcchpndaa
open Go.RowKit
set_option linter.unusedVariables false
set_option linter.unusedSimpArgs false
set_option maxRecDepth 100000
theorem syncdir_bad (p : Option Addr) (E : Int) (w : World) (h : Calls Try.prog 29 #[.pointer p, .slice none 0 0] w fun e w' => e = .returned (.int .i64 E) ∧ w' = w) (hE : (E == 0) = false) : Ans 10 #[.pointer p] w fun v w' => v = E ∧ w' = w := by
  have HC : Hid (Calls Try.prog 29 #[.pointer p, .slice none 0 0] w fun e w' => e = .returned (.int .i64 E) ∧ w' = w) := h
  clear h
  go_enter Try.func10, Try.ntmps10
  go_wp2_with (first | (go_at_call 29; refine HC.out.mono ?_; rintro e w1 ⟨rfl, hw⟩; subst hw))
  go_ret
  exact ⟨E, rfl, rfl, rfl⟩
theorem up_refuses {w : World} {base d : Nat} {x : Dr} (h : Dir w base d x) (hup : x.c1 = .bool false) : Calls Try.prog 29 #[.pointer (some ⟨d, 0, none⟩), .slice none 0 0] w fun e w' => e = .returned (.int .i64 0) ∧ w' = w := by
  have hblk := h.blk
  rw [hup] at hblk
  exact refuses_ok d none 0 0 [] w (by rw [cell_block hblk]; rfl) rfl (by omega) (.inl rfl) (fun s hs => by cases hs)
theorem syncdir_off (w : World) (base d : Nat) (x : Dr) (am : Option Am) (fo : Option (DataW Unit)) (nf made : Nat) (es : List En) (lab : Nat → Nat) (h : Dk w base d x am fo nf made es lab) (hup : x.c1 = .bool false) (hgo : goesB am = true) (Q : Int → World → Prop) (hD : Ans 34 #[.pointer (some ⟨d, 0, none⟩)] w Q) :
    Ans 10 #[.pointer (some ⟨d, 0, none⟩)] w Q := by
  have HC : Hid (Calls Try.prog 29 #[.pointer (some ⟨d, 0, none⟩), .slice none 0 0] w fun e w' => e = .returned (.int .i64 0) ∧ w' = w) := up_refuses h.dir hup
  have HC2 : Hid (Calls Try.prog 31 #[.pointer (some ⟨d, 0, none⟩)] w fun ex w2 => ex = .returned (.bool true) ∧ w2 = w) := hgo ▸ goes_dk h
  have HC4 : Hid (Ans 34 #[.pointer (some ⟨d, 0, none⟩)] w Q) := hD
  clear hD h
  go_enter Try.func10, Try.ntmps10
  go_wp2_with (first | (go_at_call 29; refine HC.out.mono ?_; rintro e w1 ⟨rfl, hw⟩; subst hw) | (go_at_call 31; refine HC2.out.mono ?_; rintro ex w2 ⟨rfl, hw⟩; subst hw) | (go_at_call 34; refine HC4.out.mono ?_; rintro ex w4 ⟨v, rfl, hq⟩; have HQ : Hid (Q v w4) := hq; clear hq))
  go_ret
  exact ⟨v, rfl, HQ.out⟩
theorem syncdir_ok (w : World) (base d : Nat) (x : Dr) (am : Option Am) (fo : Option (DataW Unit)) (nf made : Nat) (es : List En) (lab : Nat → Nat) (h : Dk w base d x am fo nf made es lab) (hup : x.c1 = .bool false) (hgo : goesB am = false) (hmade : made ≤ 1000000000) (hls : x.ls.length ≤ 1000000000) (hbl : x.bl + x.ls.length < 1000000000) (hfew : x.now.elim 0 Go.Maps.size ≤ 1000000) (hbase : base ≤ w.heap.size) (Q : Int → World → Prop)
    (hD : ∀ w1 x' D' n lab', Dk w1 base d x' am (some D') n made (namedOf es x.now) lab' → Kt w w1 d x am es x' am (namedOf es x.now) → x'.last = x.now → x'.now = x.now → x'.ls = [] → x'.bn = x.bn → x'.bl ≤ x.bl + x.ls.length → x'.c0 = x.c0 → x'.c1 = x.c1 → n ≤ x.now.elim 0 Go.Maps.size → Ans 34 #[.pointer (some ⟨d, 0, none⟩)] w1 Q) :
    Ans 10 #[.pointer (some ⟨d, 0, none⟩)] w Q := by
  have HC : Hid (Calls Try.prog 29 #[.pointer (some ⟨d, 0, none⟩), .slice none 0 0] w fun e w' => e = .returned (.int .i64 0) ∧ w' = w) := up_refuses h.dir hup
  have HC2 : Hid (Calls Try.prog 31 #[.pointer (some ⟨d, 0, none⟩)] w fun ex w2 => ex = .returned (.bool false) ∧ w2 = w) := hgo ▸ goes_dk h
  have HC3 : Hid (Calls Try.prog 32 #[.pointer (some ⟨d, 3, none⟩)] w fun ex w1 => ex = .returned (.tuple #[]) ∧ Calls Try.prog 33 #[.pointer (some ⟨d, 0, none⟩)] w1 fun ex w2 => ex = .returned (.tuple #[]) ∧ Ans 34 #[.pointer (some ⟨d, 0, none⟩)] w2 Q) := by
    refine (dsync_any w base d x h.dir h.rd hls hbl hbase).mono ?_
    rintro ex w1 ⟨rfl, g, t, e1, e2, e3, e4, e5, e6, e7, e8, e9, e10, e11⟩
    refine ⟨rfl, ?_⟩
    obtain ⟨k1, kt1⟩ := h.dirs t (by rw [e1, e2, e3]; rfl) e9 e10 e11 ⟨fun nm num hh => h.named nm num (e2 ▸ hh), fun nm num hh => h.named nm num (e1 ▸ hh), fun c hc => by rw [e3] at hc; cases hc⟩ (fun c hc => by rw [e3] at hc; cases hc)
    refine (forget_any w1 base d g am fo nf made es _ k1 hmade (by rw [e2]; exact hfew)).mono ?_
    rintro ex w2 ⟨rfl, mb, D', n, F⟩
    obtain ⟨lab2, k2, kt2⟩ := k1.forget F e3 (e1.trans e2.symm) (Nat.le_trans hbase kt1.size)
    rw [e2] at k2 kt2
    have hn := F.few
    rw [e2] at hn
    exact ⟨rfl, hD w2 _ D' n lab2 k2 (kt1.trans kt2) e1 rfl e3 e5 e6 e7 e8 hn⟩
  clear hD h
  go_enter Try.func10, Try.ntmps10
  go_wp2_with (first | (go_at_call 29; refine HC.out.mono ?_; rintro e w1 ⟨rfl, hw⟩; subst hw) | (go_at_call 31; refine HC2.out.mono ?_; rintro ex w2 ⟨rfl, hw⟩; subst hw) | (go_at_call 32; refine HC3.out.mono ?_; rintro ex w1 ⟨rfl, hc⟩; have HC5 := hide2 hc; clear hc) | (go_at_call 33; refine HC5.out.mono ?_; rintro ex w2 ⟨rfl, hc⟩; have HC4 := hide2 hc; clear hc) | (go_at_call 34; refine HC4.out.mono ?_; rintro ex w4 ⟨v, rfl, hq⟩; have HQ : Hid (Q v w4) := hq; clear hq))
  go_ret
  exact ⟨v, rfl, HQ.out⟩
end Go.Proofs.Ytkmohpdcchpndaa
