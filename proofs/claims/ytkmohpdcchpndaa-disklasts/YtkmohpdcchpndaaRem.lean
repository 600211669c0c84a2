/-
  A name of a disk is removed.
-/
import Derived.Test.YtkmohpdcchpndaaSyncf
namespace Go.Proofs.Ytkmohpdcchpndaa
open Go.RowKit
set_option linter.unusedVariables false
set_option linter.unusedSimpArgs false
set_option maxRecDepth 100000
theorem lit_not_all {num : Int} (h : ∀ z : DataW Unit, z = .lit (.int .i64 num)) : False := by
  have := h .nil
  cases this
theorem keyOf_ne {a b : ByteArray} (h : a ≠ b) : keyOf a ≠ keyOf b := fun e => by
  injection e with e
  exact h (by cases a; cases b; simp_all)
theorem has_put {D : DataW Unit} (hD : Go.Maps.IsMap D) {name nm : ByteArray} {v num : Int} (h : Has1 (some (D.put (keyOf name) (.lit (.int .i64 v)))) nm num) : (nm = name ∧ num = v) ∨ Has1 (some D) nm num := by
  obtain ⟨D', e, hat⟩ := h
  cases e
  by_cases hn : nm = name
  · subst hn
    have := hat .nil
    rw [Go.Maps.atKey_put_same hD (by trivial)] at this
    injection this with this
    injection this with _ this
    exact .inl ⟨rfl, this.symm⟩
  · refine .inr ⟨D, rfl, fun z => ?_⟩
    rw [← hat z, Go.Maps.atKey_put_other (keyOf_ne hn)]
theorem has_del {D : DataW Unit} {name nm : ByteArray} {num : Int} (h : Has1 (some (D.del (keyOf name))) nm num) : nm ≠ name ∧ Has1 (some D) nm num := by
  obtain ⟨D', e, hat⟩ := h
  cases e
  by_cases hn : nm = name
  · subst hn
    exact (lit_not_all (num := num) fun z => by rw [← hat z, Go.Maps.atKey_del_same]).elim
  · refine ⟨hn, D, rfl, fun z => ?_⟩
    rw [← hat z, Go.Maps.atKey_del_other (keyOf_ne hn)]
def odMap (od : Option (DataW Unit)) : Prop := ∀ D, od = some D → Go.Maps.IsMap D
theorem Dm.isMap {w : World} {base : Nat} {mv : Value} {od : Option (DataW Unit)} {n : Nat} (h : Dm w base mv od n) : odMap od := by
  rcases h with ⟨_, rfl⟩ | ⟨m, D, _, rfl, _, _, ht⟩
  · intro D e; cases e
  · intro D' e; cases e; exact ht.isMap
theorem isMap_del {D : DataW Unit} (h : Go.Maps.IsMap D) (k : Lit) : Go.Maps.IsMap (D.del k) := by
  obtain ⟨es, rfl⟩ := h
  exact ⟨_, rfl⟩
/-- what a change names -/
theorem has_do {c : Dc} {od : Option (DataW Unit)} (hm : odMap od) {nm : ByteArray} {num : Int} (h : Has1 (c.do od) nm num) : (∃ nm' k, c = .nm nm' k ∧ num = k) ∨ (∃ fr to_ k, c = .rn fr to_ k ∧ num = k) ∨ Has1 od nm num := by
  cases c with
  | nm name k =>
    cases od with
    | none =>
      rcases has_put ⟨[], rfl⟩ h with ⟨_, e⟩ | h'
      · exact .inl ⟨name, k, rfl, e⟩
      · obtain ⟨D, e, hat⟩ := h'
        cases e
        exact (lit_not_all (num := num) fun z => (hat z).symm ▸ rfl).elim
    | some D =>
      rcases has_put (hm D rfl) h with ⟨_, e⟩ | h'
      · exact .inl ⟨name, k, rfl, e⟩
      · exact .inr (.inr h')
  | rn fr to_ k =>
    cases od with
    | none => obtain ⟨D, e, _⟩ := h; cases e
    | some D =>
      rcases has_put (isMap_del (hm D rfl) _) h with ⟨_, e⟩ | h'
      · exact .inr (.inl ⟨fr, to_, k, rfl, e⟩)
      · exact .inr (.inr (has_del h').2)
  | rm name =>
    cases od with
    | none => obtain ⟨D, e, _⟩ := h; cases e
    | some D => exact .inr (.inr (has_del h).2)
theorem Numbers.change {x x' : Dr} {es : List En} (h : Numbers x es) (hm : odMap x.now) {c : Ld} (h1 : x'.last = x.last) (h2 : x'.now = c.c.do x.now) (h3 : x'.ls = x.ls ++ [c]) (hc : (∀ nm num, c.c = .nm nm num → ∃ e ∈ es, num = e.num) ∧ (∀ fr to_ num, c.c = .rn fr to_ num → ∃ e ∈ es, num = e.num)) : Numbers x' es := by
  refine ⟨fun nm num hh => ?_, fun nm num hh => h.lasts nm num (h1 ▸ hh), fun y hy => ?_⟩
  · rw [h2] at hh
    rcases has_do hm hh with ⟨nm', k, e, rfl⟩ | ⟨fr, to_, k, e, rfl⟩ | hh
    · obtain ⟨e', he', e2⟩ := hc.1 nm' k e
      exact ⟨e', he', by rw [e2]⟩
    · obtain ⟨e', he', e2⟩ := hc.2 fr to_ k e
      exact ⟨e', he', by rw [e2]⟩
    · exact h.named nm num hh
  · rw [h3, List.mem_append, List.mem_singleton] at hy
    rcases hy with hy | rfl
    · exact h.loose y hy
    · exact hc
theorem Dv.base {w : World} {b b' : Nat} {c : Dc} {d : Value} {ro : List Nat} (h : Dv w b c d ro) (hb : b' ≤ b) : Dv w b' c d ro := by
  cases c with
  | nm name num =>
    obtain ⟨nb, sb, rfl, h1, h2, h3, h4, rfl, h5⟩ := h
    exact ⟨nb, sb, rfl, h1, h2, by omega, by omega, rfl, h5⟩
  | rn fr to_ num =>
    obtain ⟨fb, nb, tb, rfl, h1, h2, h3, h4, h5, h6, rfl, h7⟩ := h
    exact ⟨fb, nb, tb, rfl, h1, h2, h3, by omega, by omega, by omega, rfl, h7⟩
  | rm name =>
    obtain ⟨sb, rfl, h1, h2, rfl, h3⟩ := h
    exact ⟨sb, rfl, h1, by omega, rfl, h3⟩
theorem remove_bad (p : Option Addr) (nm : ByteArray) (E : Int) (w : World) (h : Calls Try.prog 30 #[.pointer p, .string nm] w fun e w' => e = .returned (.tuple #[.pointer none, .int .i64 E]) ∧ Below w.heap.size w w') (hE : (E == 0) = false) : Ans 55 #[.pointer p, .string nm] w fun v w' => v = E ∧ Below w.heap.size w w' := by
  have HC : Hid (Calls Try.prog 30 #[.pointer p, .string nm] w fun e w' => e = .returned (.tuple #[.pointer none, .int .i64 E]) ∧ Below w.heap.size w w') := h
  clear h
  go_enter Try.func55, Try.ntmps55
  go_wp2_with (first | (go_at_call 30; refine HC.out.mono ?_; rintro e w1 ⟨rfl, hb⟩; have HB : Hid (Below w.heap.size w w1) := hb; clear hb))
  go_ret
  exact ⟨E, rfl, rfl, HB.out⟩
theorem remove_ok (w : World) (base d : Nat) (x : Dr) (am : Option Am) (fo : Option (DataW Unit)) (nf made : Nat) (es : List En) (lab : Nat → Nat) (h : Dk w base d x am fo nf made es lab) (e : En) (he : e ∈ es) (hup : x.c1 = .bool false) (nm : ByteArray) (hnm : nmOk nm) (hs : nm.size ≤ maxLen) (hh : Has1 x.now nm e.num) (hmade : made ≤ 1000000000) (hls : x.ls.length ≤ 1000000000) (hbn : x.bn < 1000000000) (hbase : base ≤ w.heap.size) (Q : Int → World → Prop)
    (hD : ∀ w1 x' lab' dv ro, Dk w1 base d x' am fo nf made es lab' → Kt w w1 d x am es x' am es → (∀ k ∈ ro, w.heap.size ≤ k) → x'.last = x.last → x'.bl = x.bl → x'.now = (.rm nm : Dc).do x.now → x'.bn = x.bn + 1 → x'.ls = x.ls ++ [⟨dv, .rm nm, ro⟩] → x'.c0 = x.c0 → x'.c1 = x.c1 → Ans 34 #[.pointer (some ⟨d, 0, none⟩)] w1 Q) :
    Ans 55 #[.pointer (some ⟨d, 0, none⟩), .string nm] w Q := by
  obtain ⟨hat, hnum⟩ := h.at_ e he
  obtain ⟨fb, hfb⟩ : ∃ fb, e.b = fb := ⟨_, rfl⟩
  have hok : Dc.ok (.rm nm) x.now := by
    obtain ⟨D, e1, _⟩ := hh
    show x.now ≠ none
    rw [e1]; simp
  have HC : Hid (Calls Try.prog 30 #[.pointer (some ⟨d, 0, none⟩), .string nm] w fun ex w1 => ex = .returned (.tuple #[.pointer (some ⟨fb, 0, none⟩), .int .i64 0]) ∧ Calls Try.prog 71 #[.string nm] w1.drew fun ex w2 => ∃ dv, ex = .returned (.agg #[dv, .int .i64 0, .bool false]) ∧ Calls Try.prog 42 #[.pointer (some ⟨d, 3, none⟩), .agg #[dv, .int .i64 0, .bool false]] w2 fun ex w3 => ex = .returned (.tuple #[]) ∧ Ans 34 #[.pointer (some ⟨d, 0, none⟩)] w3 Q) := by
    refine (find_ok base d x nm fo nf e.num e.b w h.dir h.fm hup hnm hs hh hat (by omega)).mono ?_
    rintro ex w0 ⟨rfl, hb0⟩
    have hb := hb0.drew
    generalize w0.drew = w1 at hb ⊢
    refine ⟨by rw [hfb], (removing_any w1 nm hs).mono ?_⟩
    rintro ex w2 ⟨dv, ro, rfl, hv, hb2⟩
    have k1 := h.below hb
    have k2 := k1.below hb2
    have b2 : base ≤ w1.heap.size := Nat.le_trans hbase hb.size
    have hro : ∀ k ∈ ro, w1.heap.size ≤ k ∧ k < w2.heap.size := hv.lt
    refine ⟨dv, rfl, (dchange_rm w2 base d x nm dv ro k2.dir (hv.base b2) (fun k hk hm => by have := (k1.dir.lt k hm).2; have := (hro k hk).1; omega) hok hbn hls (Nat.le_trans b2 hb2.size)).mono ?_⟩
    rintro ex w3 ⟨rfl, x', t, e1, e2, e3, e4, e5, e6, e7, e8, e9, e10, e11⟩
    obtain ⟨k3, kt⟩ := k2.dirs t (by rw [e1, e4, e6]; exact h.rd.app ⟨dv, .rm nm, ro⟩ hok) e9 e10 e11 (k2.numbers.change k2.dir.now.isMap e1 e4 e6 ⟨fun _ _ e => (by cases e), fun _ _ _ e => (by cases e)⟩) (fun c hc => by
      rw [e6, List.mem_append, List.mem_singleton] at hc
      rcases hc with hc | rfl
      · exact .inl hc
      · exact .inr fun k hk => ⟨(hro k hk).2, relab_new (hro k hk).1⟩)
    exact ⟨rfl, hD w3 x' _ dv ro k3 ((Kt.below hb d x am es).trans ((Kt.below hb2 d x am es).trans kt)) (fun k hk => Nat.le_trans hb.size (hro k hk).1) e1 e2 e4 e5 e6 e7 e8⟩
  clear hD h hat hnum hh
  go_enter Try.func55, Try.ntmps55
  go_wp2_with (first | (go_at_call 30; refine HC.out.mono ?_; rintro ex w1 ⟨rfl, hc⟩; have HC2 : Hid (Calls Try.prog 71 #[.string nm] w1.drew fun ex w2 => ∃ dv, ex = .returned (.agg #[dv, .int .i64 0, .bool false]) ∧ Calls Try.prog 42 #[.pointer (some ⟨d, 3, none⟩), .agg #[dv, .int .i64 0, .bool false]] w2 fun ex w3 => ex = .returned (.tuple #[]) ∧ Ans 34 #[.pointer (some ⟨d, 0, none⟩)] w3 Q) := hc; clear hc))
  go_region_with (first | (go_at_call 71; refine HC2.out.mono ?_; rintro ex w2 ⟨dv, rfl, hc⟩; have HC3 : Hid (Calls Try.prog 42 #[.pointer (some ⟨d, 3, none⟩), .agg #[dv, .int .i64 0, .bool false]] w2 fun ex w3 => ex = .returned (.tuple #[]) ∧ Ans 34 #[.pointer (some ⟨d, 0, none⟩)] w3 Q) := hc; clear hc) | (go_at_call 42; refine HC3.out.mono ?_; rintro ex w3 ⟨rfl, hc⟩; have HC4 : Hid (Ans 34 #[.pointer (some ⟨d, 0, none⟩)] w3 Q) := hc; clear hc))
  go_wp2_with (first | (go_at_call 34; refine HC4.out.mono ?_; rintro ex w4 ⟨v, rfl, hq⟩; have HQ : Hid (Q v w4) := hq; clear hq))
  go_ret
  exact ⟨v, rfl, HQ.out⟩
end Go.Proofs.Ytkmohpdcchpndaa
