/-
  A file of a disk is written.
-/
import Derived.Test.YtkmohpdcchpndaaUsed
import Derived.BigQuiet
namespace Go.Proofs.Ytkmohpdcchpndaa
open Go.RowKit
set_option linter.unusedVariables false
set_option linter.unusedSimpArgs false
set_option maxRecDepth 100000
theorem hide {p : Prop} (h : p) : Hid p := h
/-- from writing on -/
theorem wr_tail (w w1 : World) (base d : Nat) (x : Dr) (am : Option Am) (fo : Option (DataW Unit)) (nf made : Nat) (es : List En) (lab : Nat → Nat) (h : Dk w base d x am fo nf made es lab) (hb : Below w.heap.size w w1) (e : En) (he : e ∈ es) (at_ : Nat) (hat_ : at_ ≤ e.f.now.length) (ai : Option Addr) (m cp : Nat) (p : List Int) (hl : p.length = m) (hpb : ai = none → cp = 0) (hh : Has w ai p) (ho : Octets p) (hm : m ≤ 1099511627776) (hls : e.f.ls.length ≤ 1000000000) (hlen : max e.f.now.length (at_ + m) ≤ 1099511627776) (hbase : base ≤ w.heap.size) (Q : Int → World → Prop)
    (hD : ∀ w1 f' lab' dv ro, Dk w1 base d x am fo nf made (setf es e.num f') lab' → Kt w w1 d x am es x am (setf es e.num f') → (∀ k ∈ ro, w.heap.size ≤ k) → f'.last = e.f.last → f'.now = over e.f.now at_ p → f'.ls = e.f.ls ++ [⟨dv, .wr at_ p, ro⟩] → Ans 34 #[.pointer (some ⟨d, 0, none⟩)] w1 Q) :
    Calls Try.prog 47 #[.int .i64 at_, .slice ai m cp] w1 fun ex w2 => ∃ dv, ex = .returned (.agg #[dv, .int .i64 m, .bool true]) ∧ Calls Try.prog 46 #[.pointer (some ⟨e.b, 0, none⟩), .agg #[dv, .int .i64 m, .bool true]] w2 fun ex w3 => ex = .returned (.tuple #[]) ∧ Ans 34 #[.pointer (some ⟨d, 0, none⟩)] w3 Q := by
  refine (writing_any w1 at_ ai m cp p hl hpb (hh.of_below hb) ho (by omega)).mono ?_
  rintro ex w2 ⟨dv, ro, rfl, hv, hb2⟩
  have k1 := h.below hb
  have k2 := k1.below hb2
  have b2 : base ≤ w1.heap.size := Nat.le_trans hbase hb.size
  have hro : ∀ k ∈ ro, w1.heap.size ≤ k ∧ k < w2.heap.size := hv.lt
  refine ⟨dv, rfl, ?_⟩
  have hsz : Fc.size (.wr at_ p) = m := hl
  have hch := fchange_wr w2 base e.b e.f at_ p dv ro (k2.fil e he) (hv.base b2) (fun k hk hm => by have := ((k1.fil e he).lt k hm).2; have := (hro k hk).1; omega) hat_ (by rw [hsz]; omega) hls (Nat.le_trans b2 hb2.size)
  rw [hsz] at hch
  refine hch.mono ?_
  rintro ex w3 ⟨rfl, f', t, e1, e2, e3⟩
  have e2' : f'.now = over e.f.now at_ p := by
    rw [e2]
    show over e.f.now at_ (p.take m) = _
    rw [← hl, List.take_length]
  have hrp : Rp f'.last f'.ls f'.now := by
    have := (h.rp e he).app ⟨dv, .wr at_ p, ro⟩ hat_ (by show p.length ≤ _; omega) (by
      show (over e.f.now at_ (p.take p.length)).length ≤ _
      rw [List.take_length, over_length _ _ _ hat_, hl]; exact hlen)
    rw [e1, e3, e2]
    rw [← hsz]
    exact this
  obtain ⟨k3, kt⟩ := k2.file he t hrp (fun c hc => by
    rw [e3, List.mem_append, List.mem_singleton] at hc
    rcases hc with hc | rfl
    · exact .inl hc
    · exact .inr fun k hk => ⟨(hro k hk).2, relab_new (hro k hk).1⟩)
  exact ⟨rfl, hD w3 f' _ dv ro k3 ((Kt.below hb d x am es).trans ((Kt.below hb2 d x am es).trans kt)) (fun k hk => Nat.le_trans hb.size (hro k hk).1) e1 e2' e3⟩
theorem write_in (w : World) (base d : Nat) (x : Dr) (am : Option Am) (fo : Option (DataW Unit)) (nf made : Nat) (es : List En) (lab : Nat → Nat) (h : Dk w base d x am fo nf made es lab) (e : En) (he : e ∈ es) (hup : x.c1 = .bool false) (room : Nat) (hroom : x.c0 = .int .i64 room) (nm : ByteArray) (hnm : nmOk nm) (hs : nm.size ≤ maxLen) (hh : Has1 x.now nm e.num) (hmade : made ≤ 1000000000) (at_ : Nat) (hat_ : at_ ≤ e.f.now.length) (ai : Option Addr) (m cp : Nat) (p : List Int) (hl : p.length = m) (hpb : ai = none → cp = 0) (hp : Has w ai p) (ho : Octets p) (hm : m ≤ 1099511627776) (hls : e.f.ls.length ≤ 1000000000) (hfile : max e.f.now.length (at_ + m) ≤ 1048576) (hu : usedOf es x.now ≤ 1099511627776) (hin : at_ + m ≤ e.f.now.length) (hbase : base ≤ w.heap.size) (Q : Int → World → Prop)
    (hD : ∀ w1 f' lab' dv ro, Dk w1 base d x am fo nf made (setf es e.num f') lab' → Kt w w1 d x am es x am (setf es e.num f') → (∀ k ∈ ro, w.heap.size ≤ k) → f'.last = e.f.last → f'.now = over e.f.now at_ p → f'.ls = e.f.ls ++ [⟨dv, .wr at_ p, ro⟩] → Ans 34 #[.pointer (some ⟨d, 0, none⟩)] w1 Q) :
    Ans 19 #[.pointer (some ⟨d, 0, none⟩), .string nm, .int .i64 at_, .slice ai m cp] w Q := by
  obtain ⟨hat, hnum⟩ := h.at_ e he
  obtain ⟨fb, hfb⟩ : ∃ fb, e.b = fb := ⟨_, rfl⟩
  obtain ⟨ao, cap, hnv, hbare, hhas, _⟩ := (h.fil e he).now.form
  have hblk := (h.fil e he).blk
  rw [hnv, hfb] at hblk
  have hne : x.now ≠ none := by
    obtain ⟨D, e1, _⟩ := hh
    rw [e1]; simp
  obtain ⟨U, hU⟩ : ∃ U, usedOf es x.now = U := ⟨_, rfl⟩
  have tail : ∀ w2, Below w.heap.size w w2 → _ := fun w2 hb2 => wr_tail w w2 base d x am fo nf made es lab h hb2 e he at_ hat_ ai m cp p hl hpb hp ho hm hls (by omega) hbase Q hD
  rw [hfb] at tail
  obtain ⟨L, hL⟩ : ∃ L, e.f.now.length = L := ⟨_, rfl⟩
  rw [hL] at hblk hat_ hfile hin
  rw [hU] at hu
  have HC : Hid (Calls Try.prog 30 #[.pointer (some ⟨d, 0, none⟩), .string nm] w fun ex w1 => ex = .returned (.tuple #[.pointer (some ⟨fb, 0, none⟩), .int .i64 0]) ∧ w1.cell? ⟨fb, 2, none⟩ = some (.slice ao L cap) ∧ (Ans 45 #[.pointer (some ⟨d, 0, none⟩)] w1.drew fun v w2 => v = U ∧ w2.cell? ⟨d, 0, none⟩ = some (.int .i64 room) ∧ Below w.heap.size w w2) ∧ Below w.heap.size w w1) := by
    refine (find_ok base d x nm fo nf e.num e.b w h.dir h.fm hup hnm hs hh hat (by omega)).mono ?_
    rintro ex w1 ⟨rfl, hb⟩
    refine ⟨by rw [hfb], by rw [cell_block ((hb.block fb (lt_of_block hblk)).trans hblk)]; rfl, ?_, hb⟩
    replace hb := hb.drew
    generalize w1.drew = w1 at hb ⊢
    refine (used_any w1 base d x am fo nf made es _ (h.below hb) hmade hne (by rw [hU]; exact hu)).mono ?_
    rintro ex w2 ⟨v, rfl, hv, hb2⟩
    have hb3 : Below w.heap.size w w2 := hb.trans (hb2.mono hb.size)
    refine ⟨v, rfl, by rw [hv, hU], ?_, hb3⟩
    have := (h.below hb3).dir.blk
    rw [hroom] at this
    rw [cell_block this]; rfl
  have HT : Hid (∀ w2, Below w.heap.size w w2 → Calls Try.prog 47 #[.int .i64 at_, .slice ai m cp] w2 fun ex w2 => ∃ dv, ex = .returned (.agg #[dv, .int .i64 m, .bool true]) ∧ Calls Try.prog 46 #[.pointer (some ⟨fb, 0, none⟩), .agg #[dv, .int .i64 m, .bool true]] w2 fun ex w3 => ex = .returned (.tuple #[]) ∧ Ans 34 #[.pointer (some ⟨d, 0, none⟩)] w3 Q) := tail
  have hfile1 : L ≤ 1048576 := by omega
  have hfile2 : at_ + m ≤ 1048576 := by omega
  clear hD h hat hnum hnv hbare hhas hblk hh tail hfile hL hU hp hpb hl
  by_cases hmore : at_ + m ≤ L
  · have g1 : (at_ : Int) + m - L ≤ 0 := by omega
    have gd : decide ((0 : Int) < (at_ : Int) + m - L) = false := by simp; omega
    have gd2 : decide ((L : Int) < (at_ : Int) + m) = false := by simp; omega
    have gd3 : decide (L < at_ + m) = false := by simp; omega
    go_enter Try.func19, Try.ntmps19
    go_wp2_with (first | (go_at_call 30; refine HC.out.mono ?_; rintro ex w1 ⟨rfl, x0, _, hb⟩; have HB := hide hb; clear hb))
    all_goals go_quiet (fail)
    all_goals go_wp2_with (first | (go_at_call 47; refine (HT.out _ (below_drewN HB.out nq)).mono ?_; rintro ex w2 ⟨dv, rfl, hc⟩; have HC3 := hide hc; clear hc) | (go_at_call 46; refine HC3.out.mono ?_; rintro ex w3 ⟨rfl, hc⟩; have HC4 := hide hc; clear hc) | (go_at_call 34; refine HC4.out.mono ?_; rintro ex w4 ⟨v, rfl, hq⟩; have HQ : Hid (Q v w4) := hq; clear hq))
    all_goals go_ret
    all_goals exact ⟨v, rfl, HQ.out⟩
  · exact absurd hin hmore
end Go.Proofs.Ytkmohpdcchpndaa
