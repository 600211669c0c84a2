/-
  A name of a disk is changed.
-/
import Derived.Test.YtkmohpdcchpndaaCre
namespace Go.Proofs.Ytkmohpdcchpndaa
open Go.RowKit
set_option linter.unusedVariables false
set_option linter.unusedSimpArgs false
set_option maxRecDepth 100000
theorem two_names (w : World) (a b : ByteArray) : Nms (w.alloc (.cells #[.string a, .string b] 9 (0, 0))) (some ⟨w.heap.size, 0, none⟩) [a, b] := by
  refine .inr ⟨w.heap.size, 0, rfl, fun i s h => ?_⟩
  rw [cell_block (alloc_new rfl)]
  match i, h with
  | 0, h => simp at h; subst h; rfl
  | 1, h => simp at h; subst h; rfl
theorem rename_ok (w : World) (base d : Nat) (x : Dr) (am : Option Am) (fo : Option (DataW Unit)) (nf made : Nat) (es : List En) (lab : Nat → Nat) (h : Dk w base d x am fo nf made es lab) (e : En) (he : e ∈ es) (hup : x.c1 = .bool false) (fr to_ : ByteArray) (hfr : nmOk fr) (hto : nmOk to_) (hs : fr.size ≤ maxLen) (hs2 : to_.size ≤ maxLen) (hh : Has1 x.now fr e.num) (hmade : made ≤ 1000000000) (hls : x.ls.length ≤ 1000000000) (hbn : x.bn < 1000000000) (hbase : base ≤ w.heap.size) (Q : Int → World → Prop)
    (hD : ∀ w1 x' lab' dv ro, Dk w1 base d x' am fo nf made es lab' → Kt w w1 d x am es x' am es → (∀ k ∈ ro, w.heap.size ≤ k) → x'.last = x.last → x'.bl = x.bl → x'.now = (.rn fr to_ e.num : Dc).do x.now → x'.bn = x.bn + 1 → x'.ls = x.ls ++ [⟨dv, .rn fr to_ e.num, ro⟩] → x'.c0 = x.c0 → x'.c1 = x.c1 → Ans 34 #[.pointer (some ⟨d, 0, none⟩)] w1 Q) :
    Ans 26 #[.pointer (some ⟨d, 0, none⟩), .string fr, .string to_] w Q := by
  obtain ⟨hat, hnum⟩ := h.at_ e he
  have hok : Dc.ok (.rn fr to_ e.num) x.now := by
    obtain ⟨D, e1, _⟩ := hh
    show x.now ≠ none
    rw [e1]; simp
  have hB : Below w.heap.size w (w.alloc (.cells #[.string fr, .string to_] 9 (0, 0))) := (Below.refl _ _).alloc (Nat.le_refl _) _
  have hb := (hB.block d (lt_of_block h.dir.blk)).trans h.dir.blk
  rw [hup] at hb
  obtain ⟨mo, hnv⟩ := h.dir.now.shape
  rw [hnv] at hb
  have h1 : (w.alloc (.cells #[.string fr, .string to_] 9 (0, 0))).cell? ⟨d, 1, none⟩ = some (.bool false) := by rw [cell_block hb]; rfl
  have h5 : (w.alloc (.cells #[.string fr, .string to_] 9 (0, 0))).cell? ⟨d, 5, none⟩ = some (.map mo) := by rw [cell_block hb]; rfl
  have hn := h.dir.now
  rw [hnv] at hn
  obtain ⟨M, hM⟩ : ∃ M, e.num = M := ⟨_, rfl⟩
  rw [hM] at hh
  have hl : (Instr.lookup 62 (.map mo) (.string fr) true).run Try.prog (w.alloc (.cells #[.string fr, .string to_] 9 (0, 0))) = .ok (.tuple #[.int .i64 (M : Int), .bool true]) (w.alloc (.cells #[.string fr, .string to_] 9 (0, 0))) := by
    rcases dm_look (hn.keep (w' := w.alloc (.cells #[.string fr, .string to_] 9 (0, 0))) fun k hk => hB.block k (hn.low hk).2) fr hs with ⟨num, hr, hh', _⟩ | ⟨_, hno⟩
    · rw [← has_one hh' hh]; exact hr
    · exact (has_not hh hno).elim
  have HC : Hid (Calls Try.prog 29 #[.pointer (some ⟨d, 0, none⟩), .slice (some ⟨w.heap.size, 0, none⟩) 2 2] (w.alloc (.cells #[.string fr, .string to_] 9 (0, 0))) fun e w' => e = .returned (.int .i64 0) ∧ w' = w.alloc (.cells #[.string fr, .string to_] 9 (0, 0))) := refuses_ok d _ 2 2 [fr, to_] _ h1 rfl (by omega) (two_names w fr to_) (fun s hs => by
    simp at hs
    rcases hs with rfl | rfl
    · exact hfr
    · exact hto)
  have HC2 : Hid (Calls Try.prog 51 #[.string fr, .string to_, .int .i64 (M : Int)] (w.alloc (.cells #[.string fr, .string to_] 9 (0, 0))).drew fun ex w2 => ∃ dv, ex = .returned (.agg #[dv, .int .i64 0, .bool false]) ∧ Calls Try.prog 42 #[.pointer (some ⟨d, 3, none⟩), .agg #[dv, .int .i64 0, .bool false]] w2 fun ex w3 => ex = .returned (.tuple #[]) ∧ Ans 34 #[.pointer (some ⟨d, 0, none⟩)] w3 Q) := by
    have hb0 := hB.drew
    generalize (w.alloc (.cells #[.string fr, .string to_] 9 (0, 0))).drew = w1 at hb0 ⊢
    subst hM
    refine (renaming_any w1 fr to_ e.num hs hs2 (by omega)).mono ?_
    rintro ex w2 ⟨dv, ro, rfl, hv, hb2⟩
    have k1 := h.below hb0
    have k2 := k1.below hb2
    have b2 : base ≤ w1.heap.size := Nat.le_trans hbase hb0.size
    have hro : ∀ k ∈ ro, w1.heap.size ≤ k ∧ k < w2.heap.size := hv.lt
    refine ⟨dv, rfl, (dchange_rn w2 base d x fr to_ e.num dv ro k2.dir (hv.base b2) (fun k hk hm => by have := (k1.dir.lt k hm).2; have := (hro k hk).1; omega) hok hbn hls (Nat.le_trans b2 hb2.size)).mono ?_⟩
    rintro ex w3 ⟨rfl, x', t, e1, e2, e3, e4, e5, e6, e7, e8, e9, e10, e11⟩
    obtain ⟨k3, kt⟩ := k2.dirs t (by rw [e1, e4, e6]; exact h.rd.app ⟨dv, .rn fr to_ e.num, ro⟩ hok) e9 e10 e11 (k2.numbers.change k2.dir.now.isMap e1 e4 e6 ⟨fun _ _ e' => (by cases e'), fun _ _ _ e' => ⟨e, he, (by injection e' with _ _ e'; exact e'.symm)⟩⟩) (fun c hc => by
      rw [e6, List.mem_append, List.mem_singleton] at hc
      rcases hc with hc | rfl
      · exact .inl hc
      · exact .inr fun k hk => ⟨(hro k hk).2, relab_new (hro k hk).1⟩)
    exact ⟨rfl, hD w3 x' _ dv ro k3 ((Kt.below hb0 d x am es).trans ((Kt.below hb2 d x am es).trans kt)) (fun k hk => Nat.le_trans hb0.size (hro k hk).1) e1 e2 e4 e5 e6 e7 e8⟩
  clear hD h hat hnum hh hn hnv hb hM
  go_enter Try.func26, Try.ntmps26
  go_wp2_with (first | (go_at_call 29; refine HC.out.mono ?_; rintro e w1 ⟨rfl, hw⟩; subst hw))
  go_region_with (first | (go_at_call 51; refine HC2.out.mono ?_; rintro ex w2 ⟨dv, rfl, hc⟩; have HC3 : Hid (Calls Try.prog 42 #[.pointer (some ⟨d, 3, none⟩), .agg #[dv, .int .i64 0, .bool false]] w2 fun ex w3 => ex = .returned (.tuple #[]) ∧ Ans 34 #[.pointer (some ⟨d, 0, none⟩)] w3 Q) := hc; clear hc) | (go_at_call 42; refine HC3.out.mono ?_; rintro ex w3 ⟨rfl, hc⟩; have HC4 : Hid (Ans 34 #[.pointer (some ⟨d, 0, none⟩)] w3 Q) := hc; clear hc))
  go_wp2_with (first | (go_at_call 34; refine HC4.out.mono ?_; rintro ex w4 ⟨v, rfl, hq⟩; have HQ : Hid (Q v w4) := hq; clear hq))
  go_ret
  exact ⟨v, rfl, HQ.out⟩
end Go.Proofs.Ytkmohpdcchpndaa
