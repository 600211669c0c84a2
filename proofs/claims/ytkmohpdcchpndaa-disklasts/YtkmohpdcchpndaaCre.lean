/-
  A file is made.
-/
import Derived.Test.YtkmohpdcchpndaaDk3
namespace Go.Proofs.Ytkmohpdcchpndaa
open Go.RowKit
set_option linter.unusedVariables false
set_option linter.unusedSimpArgs false
set_option maxRecDepth 100000
theorem dm_len {w : World} {base : Nat} {mo : Option Nat} {od : Option (DataW Unit)} {n : Nat} (h : Dm w base (.map mo) od n) (ty : TypeId) : (Builtin.len_ #[62] ty #[.map mo]).run Try.prog w = .ok (.int .i64 ((od.elim 0 Go.Maps.size : Nat) : Int)) w := by
  rcases h with ⟨e, rfl⟩ | ⟨m, D, e, rfl, _, h2, _⟩
  · cases e; exact Go.Maps.len_nil Try.underlying62 ty
  · cases e; exact h2.len Try.underlying62 ty
theorem create_ok (w : World) (base d : Nat) (x : Dr) (am : Option Am) (fo : Option (DataW Unit)) (nf made : Nat) (es : List En) (lab : Nat → Nat) (h : Dk w base d x am fo nf made es lab) (hup : x.c1 = .bool false) (nm : ByteArray) (hnm : nmOk nm) (hs : nm.size ≤ maxLen) (hno : Not1 x.now nm) (hfew : x.now.elim 0 Go.Maps.size < 64) (hmade : made < 1000000) (hnf : nf < 1000000) (hls : x.ls.length ≤ 1000000000) (hbn : x.bn < 1000000000) (hbase : base ≤ w.heap.size) (Q : Int → World → Prop)
    (hD : ∀ w1 x' lab' dv ro (fb : Nat), Dk w1 base d x' am (some ((fo.getD (.map [])).put (fkey (made + 1)) (.lit (.int .i64 fb)))) (nf + 1) (made + 1) (es ++ [⟨made + 1, fb, noFile⟩]) lab' → Kt w w1 d x am es x' am (es ++ [⟨made + 1, fb, noFile⟩]) → (∀ k ∈ ro, w.heap.size ≤ k) → x'.last = x.last → x'.bl = x.bl → x'.now = (.nm nm (made + 1) : Dc).do x.now → x'.bn = x.bn + 1 → x'.ls = x.ls ++ [⟨dv, .nm nm (made + 1), ro⟩] → x'.c0 = x.c0 → x'.c1 = x.c1 → Ans 34 #[.pointer (some ⟨d, 0, none⟩)] w1 Q) :
    Ans 18 #[.pointer (some ⟨d, 0, none⟩), .string nm] w Q := by
  have hB : Below w.heap.size w (w.alloc (.cells #[.string nm] 9 (0, 0))) := (Below.refl _ _).alloc (Nat.le_refl _) _
  have hb := (hB.block d (lt_of_block h.dir.blk)).trans h.dir.blk
  rw [hup] at hb
  obtain ⟨mo, hnv⟩ := h.dir.now.shape
  rw [hnv] at hb
  have h1 : (w.alloc (.cells #[.string nm] 9 (0, 0))).cell? ⟨d, 1, none⟩ = some (.bool false) := by rw [cell_block hb]; rfl
  have h5 : (w.alloc (.cells #[.string nm] 9 (0, 0))).cell? ⟨d, 5, none⟩ = some (.map mo) := by rw [cell_block hb]; rfl
  have hn := h.dir.now
  rw [hnv] at hn
  have hl : (Instr.lookup 62 (.map mo) (.string nm) true).run Try.prog (w.alloc (.cells #[.string nm] 9 (0, 0))) = .ok (.tuple #[.int .i64 0, .bool false]) (w.alloc (.cells #[.string nm] 9 (0, 0))) := by
    rcases dm_look (hn.keep (w' := w.alloc (.cells #[.string nm] 9 (0, 0))) fun k hk => hB.block k (hn.low hk).2) nm hs with ⟨num, _, hh, _⟩ | ⟨h1, _⟩
    · exact (has_not hh hno).elim
    · exact h1
  obtain ⟨L, hL⟩ : ∃ L, x.now.elim 0 Go.Maps.size = L := ⟨_, rfl⟩
  have hlen : ∀ ty, (Builtin.len_ #[62] ty #[.map mo]).run Try.prog (w.alloc (.cells #[.string nm] 9 (0, 0))) = .ok (.int .i64 (L : Int)) (w.alloc (.cells #[.string nm] 9 (0, 0))) := fun ty => hL ▸ dm_len (hn.keep (w' := w.alloc (.cells #[.string nm] 9 (0, 0))) fun k hk => hB.block k (hn.low hk).2) ty
  rw [hL] at hfew
  have HC : Hid (Calls Try.prog 29 #[.pointer (some ⟨d, 0, none⟩), .slice (some ⟨w.heap.size, 0, none⟩) 1 1] (w.alloc (.cells #[.string nm] 9 (0, 0))) fun e w' => e = .returned (.int .i64 0) ∧ w' = w.alloc (.cells #[.string nm] 9 (0, 0))) := refuses_ok d _ 1 1 [nm] _ h1 rfl (by omega) (one_name w nm) (fun s hs => by simp at hs; subst hs; exact hnm)
  obtain ⟨M, hM⟩ : ∃ M, made + 1 = M := ⟨_, rfl⟩
  have HC2 : Hid (Calls Try.prog 44 #[.pointer (some ⟨d, 0, none⟩)] (w.alloc (.cells #[.string nm] 9 (0, 0))).drew fun ex w1 => ex = .returned (.int .i64 (M : Int)) ∧ Calls Try.prog 43 #[.string nm, .int .i64 (M : Int)] w1 fun ex w2 => ∃ dv, ex = .returned (.agg #[dv, .int .i64 0, .bool false]) ∧ Calls Try.prog 42 #[.pointer (some ⟨d, 3, none⟩), .agg #[dv, .int .i64 0, .bool false]] w2 fun ex w3 => ex = .returned (.tuple #[]) ∧ Ans 34 #[.pointer (some ⟨d, 0, none⟩)] w3 Q) := by
    have hb0 := hB.drew
    generalize (w.alloc (.cells #[.string nm] 9 (0, 0))).drew = w0 at hb0 ⊢
    have k0 := h.below hb0
    have kb0 := k0.dir.blk
    rw [k0.c7] at kb0
    have bs0 : base ≤ w0.heap.size := Nat.le_trans hbase hb0.size
    refine (add_any w0 base d x.c0 x.c1 x.c2 x.lv x.lo x.nv x.c6 fo nf made kb0 k0.fm (fun e => by have := k0.l1 d e; have := k0.l0 d (by simp [Dr.mut]); omega) hnf hmade bs0).mono ?_
    rintro ex w1 ⟨rfl, mv', fb, A⟩
    obtain ⟨lab1, k1, kt1⟩ := k0.add A bs0
    have bs1 : base ≤ w1.heap.size := Nat.le_trans bs0 kt1.size
    refine ⟨by rw [← hM]; rfl, ?_⟩
    rw [← hM]
    refine (naming_any w1 nm (made + 1) hs (by omega)).mono ?_
    rintro ex w2 ⟨dv, ro, rfl, hv, hb2⟩
    have k2 := k1.below hb2
    have hro : ∀ k ∈ ro, w1.heap.size ≤ k ∧ k < w2.heap.size := hv.lt
    have hok : Dc.ok (.nm nm (made + 1)) x.now := trivial
    refine ⟨dv, rfl, (dchange_nm w2 base d _ nm (made + 1) dv ro k2.dir (hv.base bs1) (fun k hk hm => by have := (k1.dir.lt k hm).2; have := (hro k hk).1; omega) hok hbn hls (Nat.le_trans bs1 hb2.size)).mono ?_⟩
    rintro ex w3 ⟨rfl, x', t, e1, e2, e3, e4, e5, e6, e7, e8, e9, e10, e11⟩
    obtain ⟨k3, kt⟩ := k2.dirs t (by rw [e1, e4, e6]; exact h.rd.app ⟨dv, .nm nm (made + 1), ro⟩ hok) e9 e10 e11 (k2.numbers.change k2.dir.now.isMap e1 e4 e6 ⟨fun nm' num' e => ⟨⟨made + 1, fb, noFile⟩, List.mem_append.2 (.inr (List.mem_singleton.2 rfl)), (by injection e with _ e; rw [← e])⟩, fun _ _ _ e => (by cases e)⟩) (fun c hc => by
      rw [e6, List.mem_append, List.mem_singleton] at hc
      rcases hc with hc | rfl
      · exact .inl hc
      · exact .inr fun k hk => ⟨(hro k hk).2, relab_new (hro k hk).1⟩)
    exact ⟨rfl, hD w3 x' _ dv ro fb k3 ((Kt.below hb0 d x am es).trans (kt1.trans ((Kt.below hb2 d _ am _).trans kt))) (fun k hk => Nat.le_trans (Nat.le_trans hb0.size kt1.size) (hro k hk).1) e1 e2 e4 e5 e6 e7 e8⟩
  have hL' : ¬ (64 ≤ L) := by omega
  clear hD h hn hno hnv hb hL hM
  go_enter Try.func18, Try.ntmps18
  go_wp2_with (first | (go_at_call 29; refine HC.out.mono ?_; rintro e w1 ⟨rfl, hw⟩; subst hw))
  go_region_with (first | (go_at_call 44; refine HC2.out.mono ?_; rintro ex w1 ⟨rfl, hc⟩; have HC3 : Hid (Calls Try.prog 43 #[.string nm, .int .i64 (M : Int)] w1 fun ex w2 => ∃ dv, ex = .returned (.agg #[dv, .int .i64 0, .bool false]) ∧ Calls Try.prog 42 #[.pointer (some ⟨d, 3, none⟩), .agg #[dv, .int .i64 0, .bool false]] w2 fun ex w3 => ex = .returned (.tuple #[]) ∧ Ans 34 #[.pointer (some ⟨d, 0, none⟩)] w3 Q) := hc; clear hc) | (go_at_call 43; refine HC3.out.mono ?_; rintro ex w2 ⟨dv, rfl, hc⟩; have HC4 : Hid (Calls Try.prog 42 #[.pointer (some ⟨d, 3, none⟩), .agg #[dv, .int .i64 0, .bool false]] w2 fun ex w3 => ex = .returned (.tuple #[]) ∧ Ans 34 #[.pointer (some ⟨d, 0, none⟩)] w3 Q) := hc; clear hc) | (go_at_call 42; refine HC4.out.mono ?_; rintro ex w3 ⟨rfl, hc⟩; have HC5 : Hid (Ans 34 #[.pointer (some ⟨d, 0, none⟩)] w3 Q) := hc; clear hc))
  go_wp2_with (first | (go_at_call 34; refine HC5.out.mono ?_; rintro ex w4 ⟨v, rfl, hq⟩; have HQ : Hid (Q v w4) := hq; clear hq))
  go_ret
  exact ⟨v, rfl, HQ.out⟩
end Go.Proofs.Ytkmohpdcchpndaa
