/-
  A file of a disk is written, and grows.
-/
import Derived.Test.YtkmohpdcchpndaaWri
import Derived.Deep.RegionHeld3
namespace Go.Proofs.Ytkmohpdcchpndaa
open Go.RowKit
set_option linter.unusedVariables false
set_option linter.unusedSimpArgs false
set_option maxRecDepth 100000
theorem wrap_small {z : Int} (h0 : 0 ≤ z) (h1 : z ≤ 9223372036854775807) : IntKind.i64.wrap z = z := by
  simp [IntKind.wrap, IntKind.bits, IntKind.signed]
  omega
set_option maxHeartbeats 2000000 in
theorem write_out (w : World) (base d : Nat) (x : Dr) (am : Option Am) (fo : Option (DataW Unit)) (nf made : Nat) (es : List En) (lab : Nat → Nat) (h : Dk w base d x am fo nf made es lab) (e : En) (he : e ∈ es) (hup : x.c1 = .bool false) (room : Nat) (hroom : x.c0 = .int .i64 room) (nm : ByteArray) (hnm : nmOk nm) (hs : nm.size ≤ maxLen) (hh : Has1 x.now nm e.num) (hmade : made ≤ 1000000000) (at_ : Nat) (hat_ : at_ ≤ e.f.now.length) (ai : Option Addr) (m cp : Nat) (p : List Int) (hl : p.length = m) (hpb : ai = none → cp = 0) (hp : Has w ai p) (ho : Octets p) (hm : m ≤ 1099511627776) (hls : e.f.ls.length ≤ 1000000000) (hfile : max e.f.now.length (at_ + m) ≤ 1048576) (hu : usedOf es x.now ≤ 1099511627776) (hin : e.f.now.length < at_ + m) (hfit : usedOf es x.now + (at_ + m - e.f.now.length) ≤ room) (hrm : room ≤ 9223372036854775807) (hbase : base ≤ w.heap.size) (Q : Int → World → Prop)
    (hD : ∀ w1 f' lab' dv ro, Dk w1 base d x am fo nf made (setf es e.num f') lab' → Kt w w1 d x am es x am (setf es e.num f') → (∀ k ∈ ro, w.heap.size ≤ k) → f'.last = e.f.last → f'.now = over e.f.now at_ p → f'.ls = e.f.ls ++ [⟨dv, .wr at_ p, ro⟩] → Ans 34 #[.pointer (some ⟨d, 0, none⟩)] w1 Q) :
    Ans 19 #[.pointer (some ⟨d, 0, none⟩), .string nm, .int .i64 at_, .slice ai m cp] w Q := by
  obtain ⟨hat, hnum⟩ := h.at_ e he
  obtain ⟨fb, hfb⟩ : ∃ fb, e.b = fb := ⟨_, rfl⟩
  obtain ⟨ao, cap, hnv, hbare, hhas, _⟩ := (h.fil e he).now.form
  have hblk := (h.fil e he).blk
  rw [hnv, hfb] at hblk
  have hne : x.now ≠ none := by
    obtain ⟨D, e1, _⟩ := hh
    rw [e1]; simp
  obtain ⟨U, hU⟩ : ∃ U, usedOf es x.now = U := ⟨_, rfl⟩
  have tail : ∀ w2, Below w.heap.size w w2 → _ := fun w2 hb2 => wr_tail w w2 base d x am fo nf made es lab h hb2 e he at_ hat_ ai m cp p hl hpb hp ho hm hls (by omega) hbase Q hD
  rw [hfb] at tail
  obtain ⟨L, hL⟩ : ∃ L, e.f.now.length = L := ⟨_, rfl⟩
  rw [hL] at hblk hat_ hfile hin hfit
  rw [hU] at hu hfit
  have HC : Hid (Calls Try.prog 30 #[.pointer (some ⟨d, 0, none⟩), .string nm] w fun ex w1 => ex = .returned (.tuple #[.pointer (some ⟨fb, 0, none⟩), .int .i64 0]) ∧ w1.cell? ⟨fb, 2, none⟩ = some (.slice ao L cap) ∧ w1.cell? ⟨d, 0, none⟩ = some (.int .i64 room) ∧ (Ans 45 #[.pointer (some ⟨d, 0, none⟩)] w1.drew fun v w2 => v = U ∧ w2.cell? ⟨d, 0, none⟩ = some (.int .i64 room) ∧ Below w.heap.size w w2) ∧ Below w.heap.size w w1) := by
    refine (find_ok base d x nm fo nf e.num e.b w h.dir h.fm hup hnm hs hh hat (by omega)).mono ?_
    rintro ex w1 ⟨rfl, hb⟩
    refine ⟨by rw [hfb], by rw [cell_block ((hb.block fb (lt_of_block hblk)).trans hblk)]; rfl, by have := (h.below hb).dir.blk; rw [hroom] at this; rw [cell_block this]; rfl, ?_, hb⟩
    replace hb := hb.drew
    generalize w1.drew = w1 at hb ⊢
    refine (used_any w1 base d x am fo nf made es _ (h.below hb) hmade hne (by rw [hU]; exact hu)).mono ?_
    rintro ex w2 ⟨v, rfl, hv, hb2⟩
    have hb3 : Below w.heap.size w w2 := hb.trans (hb2.mono hb.size)
    refine ⟨v, rfl, by rw [hv, hU], ?_, hb3⟩
    have := (h.below hb3).dir.blk
    rw [hroom] at this
    rw [cell_block this]; rfl
  have HT : Hid (∀ w2, Below w.heap.size w w2 → Calls Try.prog 47 #[.int .i64 at_, .slice ai m cp] w2 fun ex w2 => ∃ dv, ex = .returned (.agg #[dv, .int .i64 m, .bool true]) ∧ Calls Try.prog 46 #[.pointer (some ⟨fb, 0, none⟩), .agg #[dv, .int .i64 m, .bool true]] w2 fun ex w3 => ex = .returned (.tuple #[]) ∧ Ans 34 #[.pointer (some ⟨d, 0, none⟩)] w3 Q) := tail
  have hfile1 : L ≤ 1048576 := by omega
  have hfile2 : at_ + m ≤ 1048576 := by omega
  clear hD h hat hnum hnv hbare hhas hblk hh tail hfile hL hU hp hpb hl
  obtain ⟨G, hG⟩ : ∃ G : Nat, (at_ : Int) + m - L = G := ⟨at_ + m - L, by omega⟩
  have g1 : max ((at_ : Int) + m - L) 0 = G := by omega
  have g2 : 0 < G := by omega
  have g2d : decide ((0 : Int) < (G : Int)) = true := by simp; omega
  have g3 : (U : Int) + G ≤ room := by omega
  have g4 : (L : Int) + G ≤ 1048576 := by omega
  have gw : IntKind.i64.wrap ((U : Int) + (G : Int)) = (U : Int) + G := wrap_small (by omega) (by omega)
  go_enter Try.func19, Try.ntmps19
  go_wp2_with (first | (go_at_call 30; refine HC.out.mono ?_; rintro ex w1 ⟨rfl, x0, xd, hcu, hb⟩; have HB := hide hb; have HU := hide hcu; clear hb hcu))
  have yd : w1.drew.cell? ⟨d, 0, none⟩ = some (.int .i64 room) := xd
  go_region_held3 (fun w' => w'.cell? ⟨d, 0, none⟩ = some (.int .i64 room)) (go_keep) (first | (go_at_call 45; refine HU.out.mono ?_; rintro ex w2 ⟨v, rfl, hv, hcd, hb2⟩; have HB2 := hide hb2; clear hb2; subst hv))
  go_wp2_with (first | (go_at_call 47; refine (HT.out _ HB2.out).mono ?_; rintro ex w3 ⟨dv, rfl, hc⟩; have HC3 := hide hc; clear hc) | (go_at_call 46; refine HC3.out.mono ?_; rintro ex w4 ⟨rfl, hc⟩; have HC4 := hide hc; clear hc) | (go_at_call 34; refine HC4.out.mono ?_; rintro ex w5 ⟨v5, rfl, hq⟩; have HQ : Hid (Q v5 w5) := hq; clear hq))
  go_ret
  exact ⟨v5, rfl, HQ.out⟩
set_option maxHeartbeats 2000000 in
theorem write_full (w : World) (base d : Nat) (x : Dr) (am : Option Am) (fo : Option (DataW Unit)) (nf made : Nat) (es : List En) (lab : Nat → Nat) (h : Dk w base d x am fo nf made es lab) (e : En) (he : e ∈ es) (hup : x.c1 = .bool false) (room : Nat) (hroom : x.c0 = .int .i64 room) (nm : ByteArray) (hnm : nmOk nm) (hs : nm.size ≤ maxLen) (hh : Has1 x.now nm e.num) (hmade : made ≤ 1000000000) (at_ : Nat) (hat_ : at_ ≤ e.f.now.length) (ai : Option Addr) (m cp : Nat) (p : List Int) (hl : p.length = m) (hpb : ai = none → cp = 0) (hp : Has w ai p) (ho : Octets p) (hm : m ≤ 1099511627776) (hls : e.f.ls.length ≤ 1000000000) (hfile : max e.f.now.length (at_ + m) ≤ 1048576) (hu : usedOf es x.now ≤ 1099511627776) (hin : e.f.now.length < at_ + m) (hfit : room < usedOf es x.now + (at_ + m - e.f.now.length)) (hrm : room ≤ 9223372036854775807) (hbase : base ≤ w.heap.size) :
    Ans 19 #[.pointer (some ⟨d, 0, none⟩), .string nm, .int .i64 at_, .slice ai m cp] w fun v w' => v = 31 ∧ Below w.heap.size w w' := by
  obtain ⟨hat, hnum⟩ := h.at_ e he
  obtain ⟨fb, hfb⟩ : ∃ fb, e.b = fb := ⟨_, rfl⟩
  obtain ⟨ao, cap, hnv, hbare, hhas, _⟩ := (h.fil e he).now.form
  have hblk := (h.fil e he).blk
  rw [hnv, hfb] at hblk
  have hne : x.now ≠ none := by
    obtain ⟨D, e1, _⟩ := hh
    rw [e1]; simp
  obtain ⟨U, hU⟩ : ∃ U, usedOf es x.now = U := ⟨_, rfl⟩
  obtain ⟨L, hL⟩ : ∃ L, e.f.now.length = L := ⟨_, rfl⟩
  rw [hL] at hblk hat_ hfile hin hfit
  rw [hU] at hu hfit
  have HC : Hid (Calls Try.prog 30 #[.pointer (some ⟨d, 0, none⟩), .string nm] w fun ex w1 => ex = .returned (.tuple #[.pointer (some ⟨fb, 0, none⟩), .int .i64 0]) ∧ w1.cell? ⟨fb, 2, none⟩ = some (.slice ao L cap) ∧ w1.cell? ⟨d, 0, none⟩ = some (.int .i64 room) ∧ (Ans 45 #[.pointer (some ⟨d, 0, none⟩)] w1.drew fun v w2 => v = U ∧ w2.cell? ⟨d, 0, none⟩ = some (.int .i64 room) ∧ Below w.heap.size w w2) ∧ Below w.heap.size w w1) := by
    refine (find_ok base d x nm fo nf e.num e.b w h.dir h.fm hup hnm hs hh hat (by omega)).mono ?_
    rintro ex w1 ⟨rfl, hb⟩
    refine ⟨by rw [hfb], by rw [cell_block ((hb.block fb (lt_of_block hblk)).trans hblk)]; rfl, by have := (h.below hb).dir.blk; rw [hroom] at this; rw [cell_block this]; rfl, ?_, hb⟩
    replace hb := hb.drew
    generalize w1.drew = w1 at hb ⊢
    refine (used_any w1 base d x am fo nf made es _ (h.below hb) hmade hne (by rw [hU]; exact hu)).mono ?_
    rintro ex w2 ⟨v, rfl, hv, hb2⟩
    have hb3 : Below w.heap.size w w2 := hb.trans (hb2.mono hb.size)
    refine ⟨v, rfl, by rw [hv, hU], ?_, hb3⟩
    have := (h.below hb3).dir.blk
    rw [hroom] at this
    rw [cell_block this]; rfl
  have hfile1 : L ≤ 1048576 := by omega
  have hfile2 : at_ + m ≤ 1048576 := by omega
  clear h hat hnum hnv hbare hhas hblk hh hfile hL hU hp hpb hl
  obtain ⟨G, hG⟩ : ∃ G : Nat, (at_ : Int) + m - L = G := ⟨at_ + m - L, by omega⟩
  have g1 : max ((at_ : Int) + m - L) 0 = G := by omega
  have g2 : 0 < G := by omega
  have g2d : decide ((0 : Int) < (G : Int)) = true := by simp; omega
  have g3 : (room : Int) < U + G := by omega
  have g3n : room < U + G := by omega
  have g4 : (L : Int) + G ≤ 1048576 := by omega
  have gw : IntKind.i64.wrap ((U : Int) + (G : Int)) = (U : Int) + G := wrap_small (by omega) (by omega)
  go_enter Try.func19, Try.ntmps19
  go_wp2_with (first | (go_at_call 30; refine HC.out.mono ?_; rintro ex w1 ⟨rfl, x0, xd, hcu, hb⟩; have HB := hide hb; have HU := hide hcu; clear hb hcu))
  have yd : w1.drew.cell? ⟨d, 0, none⟩ = some (.int .i64 room) := xd
  go_region_held3 (fun w' => w'.cell? ⟨d, 0, none⟩ = some (.int .i64 room)) (go_keep) (first | (go_at_call 45; refine HU.out.mono ?_; rintro ex w2 ⟨v, rfl, hv, hcd, hb2⟩; have HB2 := hide hb2; clear hb2; subst hv))
  go_wp2_with fail
  go_ret
  exact ⟨31, rfl, rfl, HB2.out⟩
theorem write_bad (p : Option Addr) (nm : ByteArray) (at_ : Int) (v : Value) (E : Int) (w : World) (h : Calls Try.prog 30 #[.pointer p, .string nm] w fun e w' => e = .returned (.tuple #[.pointer none, .int .i64 E]) ∧ Below w.heap.size w w') (hE : (E == 0) = false) : Ans 19 #[.pointer p, .string nm, .int .i64 at_, v] w fun v w' => v = E ∧ Below w.heap.size w w' := by
  have HC : Hid (Calls Try.prog 30 #[.pointer p, .string nm] w fun e w' => e = .returned (.tuple #[.pointer none, .int .i64 E]) ∧ Below w.heap.size w w') := h
  clear h
  go_enter Try.func19, Try.ntmps19
  go_wp2_with (first | (go_at_call 30; refine HC.out.mono ?_; rintro e w1 ⟨rfl, hb⟩; have HB := hide hb; clear hb))
  go_ret
  exact ⟨E, rfl, rfl, HB.out⟩
theorem write_arg (p : Option Addr) (nm : ByteArray) (at_ : Int) (v : Value) (base fb : Nat) (f : Fs) (w : World) (h : Calls Try.prog 30 #[.pointer p, .string nm] w fun e w' => e = .returned (.tuple #[.pointer (some ⟨fb, 0, none⟩), .int .i64 0]) ∧ Below w.heap.size w w') (hf : Fil w base fb f) (hn : at_ < 0 ∨ (f.now.length : Int) < at_) : Ans 19 #[.pointer p, .string nm, .int .i64 at_, v] w fun v w' => v = 2 ∧ Below w.heap.size w w' := by
  obtain ⟨ao, cap, hnv, hbare, hh, _⟩ := hf.now.form
  have hblk := hf.blk
  rw [hnv] at hblk
  obtain ⟨L, hL⟩ : ∃ L, f.now.length = L := ⟨_, rfl⟩
  rw [hL] at hblk hn
  have HC : Hid (Calls Try.prog 30 #[.pointer p, .string nm] w fun e w1 => e = .returned (.tuple #[.pointer (some ⟨fb, 0, none⟩), .int .i64 0]) ∧ w1.cell? ⟨fb, 2, none⟩ = some (.slice ao L cap) ∧ Below w.heap.size w w1) := h.mono fun e w1 ⟨he, hb⟩ =>
    ⟨he, by rw [cell_block ((hb.block fb (lt_of_block hblk)).trans hblk)]; rfl, hb⟩
  clear h hf hh hblk hnv hL hbare
  by_cases h0 : at_ < 0
  · go_enter Try.func19, Try.ntmps19
    go_wp2_with (first | (go_at_call 30; refine HC.out.mono ?_; rintro e w1 ⟨rfl, x0, hb⟩; have HB := hide hb; clear hb))
    go_ret
    exact ⟨2, rfl, rfl, HB.out⟩
  · have h1 : (L : Int) < at_ := by omega
    go_enter Try.func19, Try.ntmps19
    go_wp2_with (first | (go_at_call 30; refine HC.out.mono ?_; rintro e w1 ⟨rfl, x0, hb⟩; have HB := hide hb; clear hb))
    go_ret
    exact ⟨2, rfl, rfl, HB.out⟩
theorem write_long (p : Option Addr) (nm : ByteArray) (at_ : Nat) (ai : Option Addr) (m cp : Nat) (base fb : Nat) (f : Fs) (w : World) (h : Calls Try.prog 30 #[.pointer p, .string nm] w fun e w' => e = .returned (.tuple #[.pointer (some ⟨fb, 0, none⟩), .int .i64 0]) ∧ Below w.heap.size w w') (hf : Fil w base fb f) (hat_ : at_ ≤ f.now.length) (hm : m ≤ 140737488355328) (hl : f.now.length ≤ 1048576) (hlong : 1048576 < at_ + m) : Ans 19 #[.pointer p, .string nm, .int .i64 at_, .slice ai m cp] w fun v w' => v = 3 ∧ Below w.heap.size w w' := by
  obtain ⟨ao, cap, hnv, hbare, hh, _⟩ := hf.now.form
  have hblk := hf.blk
  rw [hnv] at hblk
  obtain ⟨L, hL⟩ : ∃ L, f.now.length = L := ⟨_, rfl⟩
  rw [hL] at hblk hat_ hl
  have HC : Hid (Calls Try.prog 30 #[.pointer p, .string nm] w fun e w1 => e = .returned (.tuple #[.pointer (some ⟨fb, 0, none⟩), .int .i64 0]) ∧ w1.cell? ⟨fb, 2, none⟩ = some (.slice ao L cap) ∧ Below w.heap.size w w1) := h.mono fun e w1 ⟨he, hb⟩ =>
    ⟨he, by rw [cell_block ((hb.block fb (lt_of_block hblk)).trans hblk)]; rfl, hb⟩
  clear h hf hh hblk hnv hL hbare
  obtain ⟨G, hG⟩ : ∃ G : Nat, (at_ : Int) + m - L = G := ⟨at_ + m - L, by omega⟩
  have g1 : max ((at_ : Int) + m - L) 0 = G := by omega
  have g4 : ¬ (L : Int) + G ≤ 1048576 := by omega
  have g5 : 1048576 < L + G := by omega
  go_enter Try.func19, Try.ntmps19
  go_wp2_with (first | (go_at_call 30; refine HC.out.mono ?_; rintro e w1 ⟨rfl, x0, hb⟩; have HB := hide hb; clear hb))
  go_ret
  exact ⟨3, rfl, rfl, HB.out⟩
end Go.Proofs.Ytkmohpdcchpndaa
