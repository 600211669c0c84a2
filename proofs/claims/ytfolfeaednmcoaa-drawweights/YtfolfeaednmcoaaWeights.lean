/- DrawWeights' walk. -/
import Derived.Test.YtfolfeaednmcoaaRCum
namespace Go.Proofs.Ytfolfeaednmcoaa
open Go.RowKit Ieee
set_option linter.unusedVariables false
set_option linter.unusedSimpArgs false
theorem place_one {zs : List Nat} {x k k' : Nat} (h : PlaceIs zs x k) (h' : PlaceIs zs x k') : k = k' := by
  rcases Nat.lt_trichotomy k k' with h1 | h1 | h1
  · have := h'.2.2 k h1; rw [h.2.1] at this; cases this
  · exact h1
  · have := h.2.2 k' h1; rw [h'.2.1] at this; cases this
def PlOut (zs : List Nat) (x k : Nat) (f : Bool) : Prop := (PlaceIs zs x k ∧ f = true) ∨ (NoPlace zs x ∧ k = 0 ∧ f = false)
theorem PlOut.one {zs : List Nat} {x k k' : Nat} {f f' : Bool} (h : PlOut zs x k f) (h' : PlOut zs x k' f') : k = k' ∧ f = f' := by
  rcases h with ⟨a, b⟩ | ⟨a, b, c⟩ <;> rcases h' with ⟨a', b'⟩ | ⟨a', b', c'⟩
  · exact ⟨place_one a a', b.trans b'.symm⟩
  · have := a' k a.1; rw [a.2.1] at this; cases this
  · have := a k' a'.1; rw [a'.2.1] at this; cases this
  · exact ⟨b.trans b'.symm, c.trans c'.symm⟩
theorem placeO (a : Option Addr) (n cap : Nat) (zs : List Nat) (x : Nat) (w : World) (hF : Fl w a n zs) : Calls Try.prog 19 #[.slice a n cap, .float .f64 x] w fun e w' => w' = w ∧ ∃ k f, PlOut zs x k f ∧ e = .returned (.tuple #[.int .i64 (k : Nat), .bool f]) :=
  (place_any a n cap zs x w hF).mono fun e w' ⟨hw, h⟩ => ⟨hw, by
    rcases h with ⟨k, h, he⟩ | ⟨h, he⟩
    · exact ⟨k, true, .inl ⟨h, rfl⟩, he⟩
    · exact ⟨0, false, .inr ⟨h, rfl, rfl⟩, he⟩⟩
theorem rplaceO (a : Option Addr) (n cap : Nat) (zs : List Nat) (x : Nat) (w : World) (hF : Fl w a n zs) : Calls Try.prog 20 #[.slice a n cap, .float .f64 x] w fun e w' => w' = w ∧ ∃ k f, PlOut zs x k f ∧ e = .returned (.tuple #[.int .i64 (k : Nat), .bool f]) :=
  (rplace_any a n cap zs x w hF).mono fun e w' ⟨hw, h⟩ => ⟨hw, by
    rcases h with ⟨k, h, he⟩ | ⟨h, he⟩
    · exact ⟨k, true, .inl ⟨h, rfl⟩, he⟩
    · exact ⟨0, false, .inr ⟨h, rfl, rfl⟩, he⟩⟩
def POut (zs : List Nat) (m k : Nat) (er : Int) : Prop := (Good zs ∧ er = 0 ∧ ∃ L, Sums zs L ∧ PlaceIs L (unit m) k) ∨ (¬ Good zs ∧ er = 2 ∧ k = 0)
theorem POut.one {zs : List Nat} {m k k' : Nat} {er er' : Int} (h : POut zs m k er) (h' : POut zs m k' er') : k = k' ∧ er = er' := by
  rcases h with ⟨a, b, L, c, d⟩ | ⟨a, b, c⟩ <;> rcases h' with ⟨a', b', L', c', d'⟩ | ⟨a', b', c'⟩
  · rw [sums_unique a' c' c] at d'
    exact ⟨place_one d d', b.trans b'.symm⟩
  · exact absurd a a'
  · exact absurd a' a
  · exact ⟨c.trans c'.symm, b.trans b'.symm⟩
theorem pickO (m : Nat) (a : Option Addr) (n cap : Nat) (zs : List Nat) (w : World) (hm : m < 18446744073709551616) (hF : Fl w a n zs) (hcap : n ≤ cap) (hc2 : cap ≤ maxLen) :
    Calls Try.prog 17 #[.int .u64 m, .slice a n cap] w fun e w' => ∃ k er, POut zs (m / 2048) k er ∧ e = .returned (.tuple #[.int .i64 (k : Nat), .int .i64 er]) ∧ Below w.heap.size w w' := by
  by_cases hG : Good zs
  · exact (pick_ok m a n cap zs w hm hF hG hcap hc2).mono fun e w' ⟨k, L, h1, h2, he, hb⟩ => ⟨k, 0, .inl ⟨hG, rfl, L, h1, h2⟩, he, hb⟩
  · exact (pick_no m a n cap zs w hF hG).mono fun e w' ⟨hw, he⟩ => ⟨0, 2, .inr ⟨hG, rfl, rfl⟩, he, by rw [hw]; exact Below.refl _ _⟩
theorem rpickO (m : Nat) (a : Option Addr) (n cap : Nat) (zs : List Nat) (w : World) (hm : m < 18446744073709551616) (hF : Fl w a n zs) :
    Calls Try.prog 18 #[.int .u64 m, .slice a n cap] w fun e w' => ∃ k er, POut zs (m / 2048) k er ∧ e = .returned (.tuple #[.int .i64 (k : Nat), .int .i64 er]) ∧ Below w.heap.size w w' := by
  have hC := rcum_any a n cap zs w hF
  have hU := fun W => runit_any m W hm
  go_enter Try.func18, Try.ntmps18
  go_wp2_with fail
  refine hC.mono ?_
  rintro e w1 ⟨al, nl, cl, L, er, rfl, hO, hFl, _, hB⟩
  have HFl : Hid (Fl w1 al nl L) := hFl
  have HB : Hid (Below w.heap.size w w1) := hB
  have HU : Hid (∀ W, Calls Try.prog 13 #[.int .u64 m] W fun e w' => e = .returned (.float .f64 (unit (m / 2048))) ∧ w' = W) := hU
  rcases hO with ⟨hG, rfl, rfl, hS⟩ | ⟨hG, rfl, rfl, rfl⟩
  · have HG : Hid (Good zs) := hG
    have HS : Hid (Sums zs L) := hS
    clear hC hFl hB hG hS hF hU
    go_wp2_with fail
    refine (HU.out w1).mono ?_
    rintro e w2 ⟨rfl, rfl⟩
    have hp := rplace_any al zs.length cl L (unit (m / 2048)) w2 HFl.out
    have hNo := sums_place (m := m / 2048) HG.out HS.out (by omega)
    obtain ⟨u, hu⟩ : ∃ u, unit (m / 2048) = u := ⟨_, rfl⟩
    have HUn : Hid (unit (m / 2048) = u) := hu
    rw [hu] at hp hNo ⊢
    clear hu HU
    go_wp2_with fail
    refine hp.mono ?_
    rintro e w3 ⟨rfl, ⟨k, hk, rfl⟩ | ⟨h, _⟩⟩
    · have HK : Hid (PlaceIs L u k) := hk
      clear hk hp hNo
      go_wp2_with fail
      go_ret2
      exact ⟨k, 0, .inl ⟨HG.out, rfl, L, HS.out, by rw [HUn.out]; exact HK.out⟩, rfl, HB.out⟩
    · exact absurd h hNo
  · have HG : Hid (¬ Good zs) := hG
    clear hC hFl hB hG hF hU
    go_wp2_with fail
    go_ret2
    exact ⟨0, 2, .inr ⟨HG.out, rfl, rfl⟩, rfl, HB.out⟩
theorem Frow.below {w w' : World} {B base g n cap : Nat} {zs : List Nat} (h : Frow w base g n cap zs) (hb : Below B w w') (hg : g < B) : Frow w' base g n cap zs :=
  ⟨h.len, h.small, own_blk' h.owns (fun k hk => by cases hk; exact hb.block g hg)⟩
theorem Frow.lt {w : World} {base g n cap : Nat} {zs : List Nat} (h : Frow w base g n cap zs) : base ≤ g ∧ g < w.heap.size := h.owns.lt g rfl
theorem own_set {w : World} {base : Nat} {e : TypeId} {g n cap : Nat} {xs : List Value} (h : w.ownsRow base e 1 (.slice (some ⟨g, 0, none⟩) n cap) n xs) (i : Nat) (hi : i < n) (v : Value) :
    (w.setCell ⟨g, i, none⟩ v).ownsRow base e 1 (.slice (some ⟨g, 0, none⟩) n cap) n (xs.set i v) := by
  refine ⟨by simpa using h.1, ?_⟩
  rcases h.2 with ⟨e, _⟩ | ⟨g', cap', cur, e, hb, hg, h1, h2, h3, h4⟩
  · cases e
  · cases e
    refine .inr ⟨g, cap, _, rfl, hb, block_setCell hg i v, h1, h2, by simpa using h3, ?_⟩
    rw [Array.toList_setIfInBounds, List.take_set, h4]
theorem Frow.set {w : World} {base g n cap : Nat} {zs : List Nat} (h : Frow w base g n cap zs) (i : Nat) (hi : i < n) (v : Nat) : Frow (w.setCell ⟨g, i, none⟩ (.float .f64 v)) base g n cap (zs.set i v) := by
  refine ⟨by simpa using h.len, h.small, ?_⟩
  have := own_set h.owns i (by omega) (.float .f64 v)
  rw [show (fvals (zs ++ [M77])).set i (.float .f64 v) = fvals (zs.set i v ++ [M77]) by
    unfold fvals
    rw [← List.map_set, List.set_append_left _ _ (by have := h.len; omega)]] at this
  exact this
theorem Fl.but {A B : World} {g : Nat} {a : Option Addr} {n : Nat} {zs : List Nat} (h : Fl A a n zs) (hb : But g A B) (hne : ∀ b o, a = some ⟨b, o, none⟩ → b ≠ g) : Fl B a n zs := by
  refine ⟨h.len, ?_, h.small⟩
  by_cases h0 : n = 0
  · exact .inl h0
  rcases h.at' with h1 | ⟨b, o, e, hc⟩
  · exact .inl h1
  · refine .inr ⟨b, o, e, fun j hj => ?_⟩
    rw [← hc j hj]
    exact World.cell?_of_block (hb.block b (h.lt b o e (by omega)) (hne b o e))
end Go.Proofs.Ytfolfeaednmcoaa
