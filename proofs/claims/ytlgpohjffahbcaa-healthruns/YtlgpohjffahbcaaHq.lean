/- HealthRuns' walk. -/
import Derived.Test.YtlgpohjffahbcaaHp
namespace Go.Proofs.Ytlgpohjffahbcaa
open Go.RowKit Ieee
set_option linter.unusedVariables false
set_option linter.unusedSimpArgs false
theorem rcopyD_any (c : Nat) (rise fall : Int) (L : List (Bool × Nat)) (base : Nat) (bs : List Nat) (w : World) (h : Rs w base c rise fall L bs) (hn : L.length ≤ 900) :
    Calls Try.prog 15 #[.pointer (some ⟨c, 0, none⟩)] w fun e w' => ∃ c' bs', e = .returned (.pointer (some ⟨c', 0, none⟩)) ∧ Rs w' w.heap.size c' rise fall L bs' ∧ Below w.heap.size w w' := by
  obtain ⟨a, cap, h1, h2, h6, rfl⟩ := h
  by_cases ha : a = none
  · subst ha
    have e : L.length = 0 ∧ cap = 0 := by
      rcases h2.2 with ⟨e, _⟩ | ⟨g, cp, cur, e, _⟩
      · injection e with _ e1 e2; exact ⟨e1, e2⟩
      · cases e
    obtain ⟨e1, rfl⟩ := e
    have e2 : L = [] := List.length_eq_zero_iff.1 e1
    subst e2
    exact rcopy_none base c rise fall w h1
  · have : ∃ g, a = some ⟨g, 0, none⟩ := by
      rcases h2.2 with ⟨e, _⟩ | ⟨g, cp, cur, e, _⟩
      · injection e with e1; exact absurd e1 ha
      · injection e with e1; exact ⟨g, e1⟩
    obtain ⟨g, rfl⟩ := this
    exact rcopy_some base c rise fall g cap L w h1 h2 hn
/-- the states under way, and those left behind -/
structure Lv (w : World) (base b c : Nat) (bs : List Nat) (r f : Int) (L : List (Bool × Nat)) (lv sv : Value) : Prop where
  two : Two w base (.pointer (some ⟨b, 0, none⟩)) (some b) (.pointer (some ⟨c, 0, none⟩)) bs (some (r, f, L))
  okd : OkD (some (r, f, L)) 500
  left : (lv = .pointer none ∧ sv = .pointer none) ∨ ∃ lb sc sbs M, lv = .pointer (some ⟨lb, 0, none⟩) ∧ sv = .pointer (some ⟨sc, 0, none⟩) ∧ Two w base lv (some lb) sv sbs (some (r, f, M)) ∧ OkD (some (r, f, M)) 500 ∧ (∀ x, x = lb ∨ x ∈ sbs → x ≠ b ∧ x ∉ bs)
theorem Rs.mono {w : World} {base base' c : Nat} {r f : Int} {L : List (Bool × Nat)} {bs : List Nat} (h : Rs w base c r f L bs) (hb : base' ≤ base) : Rs w base' c r f L bs := by
  obtain ⟨a, cap, h1, h2, h3, h4⟩ := h
  refine ⟨a, cap, h1, ⟨h2.1, ?_⟩, by omega, h4⟩
  rcases h2.2 with h0 | ⟨g, cp, cur, e1, e2, e3⟩
  · exact .inl h0
  · exact .inr ⟨g, cp, cur, e1, by omega, e3⟩
/-- a probe of both -/
theorem Lv.step {w w1 w2 : World} {base b c : Nat} {bs bs' : List Nat} {r f : Int} {L : List (Bool × Nat)} {lv sv : Value} {ok : Bool} {t : Nat} (h : Lv w base b c bs r f L lv sv) (hL : L.length < 500) (ht : t < 18446744073709551616)
    (hp : Pv w1 (.pointer (some ⟨b, 0, none⟩)) (some b) ((stO (some (r, f, L))).map (·.probe ok t))) (hs : Stp w w1 [b] [b]) (hr : Rd w2 base (.pointer (some ⟨c, 0, none⟩)) bs' (some (r, f, L ++ [(ok, t)]))) (hs2 : Stp w1 w2 bs bs') : Lv w2 base b c bs' r f (L ++ [(ok, t)]) lv sv := by
  have hm : Mid w1 base (.pointer (some ⟨b, 0, none⟩)) (some b) (.pointer (some ⟨c, 0, none⟩)) bs (some (r, f, L)) ok t := h.two.half hp hs
  refine ⟨hm.whole hr hs2, ?_, ?_⟩
  · refine ⟨(fun y hy => by cases hy; exact h.okd.ok (r, f, L) rfl), (fun y hy => by cases hy; show (L ++ [(ok, t)]).length ≤ 500; simp; omega), (fun y hy p hp => by
      cases hy
      rcases List.mem_append.1 hp with hp | hp
      · exact h.okd.lt _ rfl p hp
      · simp at hp; subst hp; exact ht)⟩
  · rcases h.left with h0 | ⟨lb, sc, sbs, M, e1, e2, t2, o2, d2⟩
    · exact .inl h0
    · refine .inr ⟨lb, sc, sbs, M, e1, e2, ⟨t2.pv.keep fun k hk => ?_, t2.rd.keep fun k hk => ?_, t2.apart⟩, o2, fun x hx => ⟨(d2 x hx).1, fun hm2 => ?_⟩⟩
      · cases hk
        have d := d2 lb (.inl rfl)
        have hl := t2.pv.lt lb rfl
        exact (hs2.old lb (Nat.lt_of_lt_of_le hl hs.size) d.2).trans (hs.old lb hl (by simpa using d.1))
      · have d := d2 k (.inr hk)
        have hl := (t2.rd.lt k hk).2
        exact (hs2.old k (Nat.lt_of_lt_of_le hl hs.size) d.2).trans (hs.old k hl (by simpa using d.1))
      · rcases hs2.new x hm2 with h3 | h3
        · exact (d2 x hx).2 h3
        · have hl : x < w.heap.size := by
            rcases hx with rfl | hx
            · exact t2.pv.lt _ rfl
            · exact (t2.rd.lt x hx).2
          have := hs.size
          omega
theorem Lv.below {w w' : World} {base b c : Nat} {bs : List Nat} {r f : Int} {L : List (Bool × Nat)} {lv sv : Value} (h : Lv w base b c bs r f L lv sv) (g : Below w.heap.size w w') : Lv w' base b c bs r f L lv sv := by
  refine ⟨h.two.below g, h.okd, ?_⟩
  rcases h.left with h0 | ⟨lb, sc, sbs, M, e1, e2, t2, o2, d2⟩
  · exact .inl h0
  · exact .inr ⟨lb, sc, sbs, M, e1, e2, t2.below g, o2, d2⟩
/-- a copy goes on -/
theorem Lv.copied {w w1 w2 : World} {base b c sc : Nat} {bs sbs : List Nat} {r f : Int} {L : List (Bool × Nat)} {lv sv : Value} {s : St} (h : Lv w base b c bs r f L lv sv) (hbase : base ≤ w.heap.size) (hst : stO (some (r, f, L)) = some s)
    (hc : Hs w1 w.heap.size s) (hb : Below w.heap.size w w1) (hr : Rs w2 w1.heap.size sc r f L sbs) (hb2 : Below w1.heap.size w1 w2) : Lv w2 base w.heap.size c bs r f L (.pointer (some ⟨b, 0, none⟩)) (.pointer (some ⟨sc, 0, none⟩)) := by
  have hB : Below w.heap.size w w2 := hb.trans (hb2.mono hb.size)
  have h1 : w.heap.size < w1.heap.size := lt_of_block hc
  have hb0 := h.two.pv.lt b rfl
  refine ⟨⟨?_, (h.two.below hB).rd, fun k hk => ?_⟩, h.okd, .inr ⟨b, sc, sbs, L, rfl, rfl, ⟨(h.two.below hB).pv, .at_ sc r f L sbs (hr.mono (by omega)), fun k hk => ?_⟩, h.okd, fun x hx => ?_⟩⟩
  · rw [hst]; exact (hc.below hb2 h1).pv
  · cases hk
    exact ⟨hbase, fun hm => by have := (h.two.rd.lt _ hm).2; omega⟩
  · cases hk
    exact ⟨(h.two.apart b rfl).1, fun hm => by have := (hr.lt b hm).1; omega⟩
  · rcases hx with rfl | hx
    · exact ⟨by omega, (h.two.apart _ rfl).2⟩
    · have := hr.lt x hx
      exact ⟨by omega, fun hm => by have := (h.two.rd.lt x hm).2; omega⟩
end Go.Proofs.Ytlgpohjffahbcaa
