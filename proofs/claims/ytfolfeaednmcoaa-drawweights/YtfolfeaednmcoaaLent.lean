/- lent, kept, rises. -/
import Derived.Test.YtfolfeaednmcoaaPick
namespace Go.Proofs.Ytfolfeaednmcoaa
open Go.RowKit Ieee
set_option linter.unusedVariables false
set_option linter.unusedSimpArgs false
abbrev M77 : Nat := 13858490847093325824
/-- reals in memory of their own, the mark behind them -/
structure Frow (w : World) (base g n cap : Nat) (zs : List Nat) : Prop where
  len : zs.length = n
  small : n ≤ 17592186044415
  owns : w.ownsRow base 29 1 (.slice (some ⟨g, 0, none⟩) (n + 1) cap) (n + 1) (fvals (zs ++ [M77]))
theorem Frow.cap {w : World} {base g n cap : Nat} {zs : List Nat} (h : Frow w base g n cap zs) : n + 1 ≤ cap ∧ cap ≤ maxLen := own_cap h.owns
theorem own_fl {w : World} {base g n cap : Nat} {zs : List Nat} (h : w.ownsRow base 29 1 (.slice (some ⟨g, 0, none⟩) n cap) n (fvals zs)) (j : Nat) (hj : j < n) : w.cell? ⟨g, j, none⟩ = some (.float .f64 (zs.getD j 0)) := by
  have hl : zs.length = n := by have := h.1; simpa [fvals_length] using this
  have := h.cells rfl j _ (fvals_get zs j (by omega))
  rw [Go.WideShapes.add_plain, Nat.zero_add] at this
  exact this
theorem Frow.fl {w : World} {base g n cap : Nat} {zs : List Nat} (h : Frow w base g n cap zs) : Fl w (some ⟨g, 0, none⟩) n zs := by
  refine ⟨h.len, .inr ⟨g, 0, rfl, fun j hj => ?_⟩, h.small⟩
  rw [Nat.zero_add, own_fl h.owns j (by omega)]
  have := h.len
  simp [List.getD, List.getElem?_append_left (show j < zs.length by omega)]
theorem Frow.mark {w : World} {base g n cap : Nat} {zs : List Nat} (h : Frow w base g n cap zs) : w.cell? ⟨g, n, none⟩ = some (.float .f64 M77) := by
  rw [own_fl h.owns n (by omega)]
  have := h.len
  simp [List.getD, ← this]
theorem fl_news {w : World} {ad : Addr} {n : Nat} {zs : List Nat} (h : Fl w (some ad) n zs) : ∀ j u, (fvals zs)[j]? = some u → w.cell? (ad.add j) = some u := fun j u hj => by
  have hjl : j < zs.length := by have := (List.getElem?_eq_some_iff.1 hj).1; simpa [fvals_length] using this
  obtain ⟨b, o, e, hc⟩ := h.cap j (by have := h.len; omega)
  cases e
  rw [Go.WideShapes.add_plain, hc j (by have := h.len; omega)]
  rw [fvals_get zs j hjl] at hj
  exact hj
theorem flent_two {w w1 : World} {zs : List Nat} {n : Nat} {v : Value} (hn : zs.length = n) (hown : w1.ownsRow w.heap.size 29 1 v (0 + n) ([] ++ fvals zs)) (hg : w.grownBy w1 none) :
    Hid (w1.ownsRow w.heap.size 29 1 v n (fvals zs)) ∧ Hid (Below w.heap.size w w1) := by
  rw [Nat.zero_add, List.nil_append] at hown
  exact ⟨hown, (Below.refl _ w).grown hg (Nat.le_refl _) (fun k h => by cases h)⟩
theorem flent_three {w w1 w2 : World} {zs : List Nat} {n g cap : Nat} {v : Value} {o : Obj} (B : Below w.heap.size w w1) (hown1 : w1.ownsRow w.heap.size 29 1 v n (fvals zs)) (hn : zs.length = n) (hs : n ≤ 17592186044415) (hown : w2.ownsRow w.heap.size 29 1 (.slice (some ⟨g, 0, none⟩) (n + 1) cap) (n + 1) (fvals zs ++ fvals [M77])) (hg : (w1.alloc o).grownBy w2 v.ownBlock) :
    Hid (Frow w2 w.heap.size g n cap zs) ∧ Hid (Below w.heap.size w w2) := by
  refine ⟨⟨hn, hs, by rw [fvals_append]; exact hown⟩, ?_⟩
  exact (B.alloc B.size _).grown hg (by have := B.size; simp; omega) (fun k h => (hown1.lt k h).1)
set_option maxHeartbeats 1000000 in
theorem lent_any (a : Option Addr) (n cap : Nat) (zs : List Nat) (w : World) (hF : Fl w a n zs) (hb : a = none → cap = 0) :
    Calls Try.prog 14 #[.slice a n cap] w fun e w' => ∃ g c, e = .returned (.slice (some ⟨g, 0, none⟩) n c) ∧ Frow w' w.heap.size g n c zs ∧ Below w.heap.size w w' := by
  obtain ⟨i0, hi, hz0, hz1, hz2⟩ := info_parts Try.info29
  have hl := hF.len
  have hs := hF.small
  have N0 : Hid (w.ownsRow w.heap.size 29 1 (.slice none 0 0) 0 []) := World.ownsRow_nil _ _ _ _
  have HN : Hid (zs.length = n) := hl
  have one : Hid (1 = (fvals [M77]).length) := rfl
  cases a with
  | none =>
    obtain rfl := hb rfl
    have h0 : n = 0 := by
      rcases hF.at' with h | ⟨b, o, e, _⟩
      · exact h
      · cases e
    subst h0
    obtain rfl : zs = [] := List.length_eq_zero_iff.1 hl
    clear hF hb hl
    go_enter Try.func14, Try.ntmps14
    go_wp2_with (first
      | (refine wpList_append_own_none rfl (.tmp 4) (.tmp 5) 32 rfl w.heap.size 29 i0 1 Try.underlying32 hi (.slice none 0 0) 0 [] rfl N0.out rfl ?_)
      | (refine wpList_append_form _ rfl (.tmp 6) (.tmp 7) 32 rfl w.heap.size 29 i0 (.float .f64 0) 1 8 Try.underlying32 hi hz0 hz1 hz2 rfl (by decide) (.slice none 0 0) 0 [] rfl (World.ownsRow_nil _ _ _ _) ⟨w.heap.size, 0, none⟩ 1 1 (fvals [M77]) rfl rfl (fl_news (fl_new (blk_new w [M77] _ rfl) rfl (by decide))) (fvals_one _) (by decide) (by decide) (by decide) (by simp) ?_; intro g c w2 hown2 hgrow2; obtain ⟨HR, HB⟩ := flent_three (zs := []) (Below.refl _ _) N0.out rfl (by decide) hown2 hgrow2; clear hown2 hgrow2; have hc := HR.out.cap; unfold maxLen at hc))
    go_ret
    exact ⟨g, c, rfl, HR.out, HB.out⟩
  | some ad =>
    have HF : Hid (Fl w (some ad) n zs) := hF
    clear hF hb hl
    go_enter Try.func14, Try.ntmps14
    go_wp2_with (first
      | (refine wpList_append_own _ rfl (.tmp 4) (.tmp 5) 32 rfl w.heap.size 29 i0 (.float .f64 0) 1 8 Try.underlying32 hi hz0 hz1 hz2 rfl (by decide) (.slice none 0 0) 0 [] rfl N0.out ad n cap (fvals zs) rfl (by rw [fvals_length, HN.out, Nat.mul_one]) (fl_news HF.out) (fvals_one _) (by unfold maxLen; omega) (by omega) (Nat.le_refl _) ?_; intro v w1 hown1 hgrow1 _; obtain ⟨HR1, HB1⟩ := flent_two HN.out hown1 hgrow1; clear hown1 hgrow1)
      | (refine wpList_append_form _ rfl (.tmp 6) (.tmp 7) 32 rfl w.heap.size 29 i0 (.float .f64 0) 1 8 Try.underlying32 hi hz0 hz1 hz2 rfl (by decide) v n (fvals zs) rfl (own_belowV HR1.out ((Below.refl w1.heap.size w1).alloc (Nat.le_refl _) _) (Nat.le_refl _)) ⟨w1.heap.size, 0, none⟩ 1 1 (fvals [M77]) rfl rfl (fl_news (fl_new (blk_new w1 [M77] _ rfl) rfl (by decide))) (fvals_one _) (by omega) (by unfold maxLen; omega) (by omega) (by have := HB1.out.size; simp; omega) ?_; intro g c w2 hown2 hgrow2; obtain ⟨HR, HB⟩ := flent_three HB1.out HR1.out HN.out hs hown2 hgrow2; clear hown2 hgrow2; have hc := HR.out.cap; unfold maxLen at hc))
    go_ret
    exact ⟨g, c, rfl, HR.out, HB.out⟩
theorem rises_any (a : Option Addr) (n cap : Nat) (zs : List Nat) (w : World) (hF : Fl w a n zs) :
    Calls Try.prog 31 #[.slice a n cap] w fun e w' => w' = w ∧ ∃ r, e = .returned (.bool r) := by
  have hs := hF.small
  go_enter Try.func31, Try.ntmps31
  go_wp2
  go_loopw [3] (fun t wr => ∃ k : Nat, k ≤ n ∧ t = .int .i64 k ∧ w = wr) (fun t _ => n - (intOf t).toNat)
  case atStart => exact ⟨0, by omega, rfl, rfl⟩
  case round =>
    obtain ⟨k, hk, rfl, rfl⟩ := hrel
    by_cases hlt : k < n
    · obtain ⟨b, o, rfl, hc⟩ := hF.cap k hlt
      have c1 := hc k hlt
      have k0 : (0 : Int) ≤ k := by omega
      have k1 : (k : Int) < n := by omega
      obtain ⟨z, hz⟩ : ∃ z, zs.getD k 0 = z := ⟨_, rfl⟩
      rw [hz] at c1
      clear hz hF hc
      cases hd : (FloatKind.f64.format.order z 4607182418800017408 == some .gt) with
      | true =>
        go_wp2_with fail
        go_ret
        exact ⟨rfl, _, rfl⟩
      | false =>
        go_wp2_with fail
        go_roundw
        case rel => exact ⟨k + 1, by omega, by go_num, trivial⟩
        case measure => simp [intOf]; omega
    · obtain rfl : k = n := by omega
      clear hF
      go_wp2_with fail
      go_ret
      exact ⟨rfl, _, rfl⟩
theorem kept_any (base g n cap : Nat) (a2 : Option Addr) (cap2 : Nat) (zs : List Nat) (w : World) (hR : Frow w base g n cap zs) (hF : Fl w a2 n zs) :
    Calls Try.prog 22 #[.slice (some ⟨g, 0, none⟩) n cap, .slice a2 n cap2] w fun e w' => e = .returned (.bool true) ∧ ∃ q, w' = w.drewN q := by
  have m1 := hR.mark
  obtain ⟨c1, c2⟩ := hR.cap
  have c3 := hR.small
  unfold maxLen at c2
  have hc := reals_any (some ⟨g, 0, none⟩) a2 n cap cap2 zs w hR.fl hF
  have k1 : (0 : Int) ≤ n := by omega
  have k2 : (n : Int) + 1 ≤ cap := by omega
  have hq : (FloatKind.f64.format.order 13858490847093325824 13858490847093325824 == some .eq) = true := by decide +kernel
  clear hR hF
  go_enter Try.func22, Try.ntmps22
  go_wp2_with fail
  refine hc.mono ?_
  rintro e w1 ⟨rfl, q, rfl⟩
  clear hc
  go_wp2
  go_ret
  exact ⟨rfl, q, rfl⟩
end Go.Proofs.Ytfolfeaednmcoaa
