/-
  What framed, Next, Frame and Scan answer, as slices in rows of the call's own.
-/
import Derived.Test.YtapejmmefhbadaaDoorGrown
import Derived.Test.YtapejmmefhbadaaDoorScanA
namespace Go.Proofs.YtapejmmefhbadaaDoor
open Go.RowKit
set_option linter.unusedVariables false

theorem row_of_block {W : World} {base g : Nat} {zs : List Int} (hb : base ≤ g) (h : W.heap[g]? = some (.cells (vals zs).toArray 5 (0, 0))) (hl : zs.length ≤ maxLen) : RowOf W base ⟨some ⟨g, 0, none⟩, zs.length, zs.length, zs⟩ :=
  ⟨by simp [vals_length], .inr ⟨g, zs.length, _, rfl, hb, h, Nat.le_refl _, hl, by simp [vals_length], by rw [Nat.mul_one]; exact List.take_of_length_le (by simp [vals])⟩⟩
theorem own_has' {w : World} {base n c : Nat} {a : Option Addr} {zs : List Int} (h : w.ownsRow base 5 1 (.slice a n c) n (vals zs)) : Has w a zs := by
  rcases h.2 with ⟨h1, h2⟩ | ⟨g, cp, cur, h1, _⟩
  · have h3 := h.1
    simp [vals_length, h2] at h3
    injection h1 with h4
    exact .inl ⟨h4, h3⟩
  · injection h1 with h4 h5 h6
    rw [h4] at h ⊢
    exact own_has h
theorem own_fits {w : World} {base n c : Nat} {a : Option Addr} {xs : List Value} (h : w.ownsRow base 5 1 (.slice a n c) n xs) : n ≤ c ∧ c ≤ maxLen ∧ (a = none → c = 0) := by
  rcases h.2 with ⟨h1, h2⟩ | ⟨g, cp, cur, h1, _, _, h3, h4, _⟩
  · injection h1 with h4 h5 h6
    subst h6
    exact ⟨by omega, by decide, fun _ => rfl⟩
  · injection h1 with h5 h6 h7
    subst h7
    exact ⟨h3, h4, fun e => by rw [e] at h5; cases h5⟩
theorem flat_oct (gs : List Sl) (h : ∀ s ∈ gs, Octets s.zs ∧ s.zs.length ≤ 131072) : Octets (flat gs) := by
  induction gs with
  | nil => exact Octets.nil
  | cons s r ih =>
    have e : flat (s :: r) = frame s.zs ++ flat r := by simp [flat]
    rw [e]
    exact (frame_octets s.zs (h s (by simp)).1 (h s (by simp)).2).append (ih (fun t ht => h t (by simp [ht])))
theorem kept_fit {w : World} {a : Option Addr} {ss : List Sl} (h : LL w a ss) : ∀ s ∈ kept ss, Octets s.zs ∧ s.zs.length ≤ 131072 := fun s hs => by
  obtain ⟨h1, h2⟩ := List.mem_filter.1 hs
  have hb := h.1 s h1
  exact ⟨hb.oct, by have := hb.len; simp [short] at h2; omega⟩

theorem next_sl (a : Option Addr) (n cap : Nat) (zs : List Int) (w : World) (hn : zs.length = n) (hB : Has w a zs) (hcap : n ≤ cap) (hm : cap ≤ maxLen) (hz : Octets zs) (hT : Tab w) :
    Calls Tryd.prog 6 #[.slice a n cap] w fun e w' => ∃ (a' : Option Addr) (n' c' : Nat) (zs' : List Int) (r1 r2 : Int), e = .returned (.tuple #[.slice a' n' c', .int .i64 r1, .int .i64 r2]) ∧ RowOf w' w.heap.size ⟨a', n', c', zs'⟩ ∧ n' ≤ 131072 ∧ Octets zs' ∧ zs'.length = n' ∧ Below w.heap.size w w' := by
  refine (next_any a n cap zs w hn hB hcap hm hz hT).mono ?_
  rintro e w' ⟨hb, ⟨_, rfl⟩ | ⟨N, g, hr, rfl, hg, hh⟩⟩
  · exact ⟨none, 0, 0, [], 0, 10, rfl, World.ownsRow_nil _ _ _ _, by decide, Octets.nil, rfl, hb⟩
  · have hN : ((zs.drop 8).take N).length = N := by have := hr.2.2.2.1; rw [List.length_take]; omega
    have hN2 : N ≤ 131072 := hr.2.2.1
    refine ⟨some ⟨g, 0, none⟩, N, N, (zs.drop 8).take N, _, _, rfl, ?_, hN2, (hz.drop 8).take N, hN, hb⟩
    have := row_of_block hg hh (by unfold maxLen; omega)
    rw [hN] at this
    exact this
theorem frame_sl (a : Option Addr) (n cap : Nat) (zs : List Int) (w : World) (hn : zs.length = n) (hB : Has w a zs) (hc : a = none → cap = 0) (hz : Octets zs) (hT : Tab w) (hl : n ≤ 131072) :
    Calls Tryd.prog 7 #[.slice a n cap] w fun e w' => ∃ g, e = .returned (.tuple #[.slice (some ⟨g, 0, none⟩) (8 + n) (8 + n), .int .i64 0]) ∧ RowOf w' w.heap.size ⟨some ⟨g, 0, none⟩, 8 + n, 8 + n, frame zs⟩ ∧ Below w.heap.size w w' :=
  frame_any a n cap zs w hn hB hc hz hT hl
theorem row1_short (zs : List Int) : ∀ (xs : List Told) (k : Nat), Row1 zs k xs → ∀ x ∈ xs, x.ps.length ≤ 131072
  | [], _, _, x, hx => by cases hx
  | y :: r, k, h, x, hx => by
    rcases List.mem_cons.1 hx with rfl | hx
    · obtain ⟨N, hN, _, hp⟩ := h.1
      rw [hp, List.length_take]
      have := hN.2.2.1
      omega
    · exact row1_short zs r _ h.2 x hx
theorem row1_count (zs : List Int) : ∀ (xs : List Told) (k : Nat), k ≤ zs.length → Row1 zs k xs → xs.length + k ≤ zs.length
  | [], k, hk, _ => by simpa using hk
  | y :: r, k, hk, h => by
    obtain ⟨N, hN, hb, _⟩ := h.1
    have h1 := hN.1
    have h2 := hN.2.2.2.1
    simp at h1 h2
    have := row1_count zs r y.behind (by omega) h.2
    simp; omega
theorem scan_sl (a : Option Addr) (n cap : Nat) (zs : List Int) (w : World) (hn : zs.length = n) (hB : Has w a zs) (hz : Octets zs) (hT : Tab w) (hl : n ≤ 1099511627776) :
    Calls Tryd.prog 8 #[.slice a n cap] w fun e w' => ∃ (xs : List Sl) (a' : Option Addr) (c' : Nat) (r : Int), e = .returned (.tuple #[.slice a' xs.length c', .int .i64 r]) ∧ w'.ownsRow w.heap.size 24 1 (.slice a' xs.length c') xs.length (xs.map Sl.val) ∧ (∀ s ∈ xs, RowOf w' w.heap.size s ∧ s.n ≤ 131072) ∧ ApartS xs ∧ xs.length ≤ 1099511627776 ∧ Below w.heap.size w w' := by
  refine (scan_anyA a n cap zs w hn hB hz hT hl).mono ?_
  rintro e w' ⟨ts, v, ⟨hA, hap⟩, rfl, hown, hl', hb⟩
  have hshort := row1_short zs ts 0 hA.1
  have hcnt := row1_count zs ts 0 (Nat.zero_le _) hA.1
  have hown' : w'.ownsRow w.heap.size 24 1 v (ts.map tl).length ((ts.map tl).map Sl.val) := by
    rw [List.length_map, List.map_map]; exact hown
  obtain ⟨a', c', rfl⟩ := own_shape hown'
  refine ⟨ts.map tl, a', c', _, rfl, hown', fun s hs => ?_, ?_, by simp; omega, hb⟩
  · obtain ⟨x, hx, rfl⟩ := List.mem_map.1 hs
    have h1 := hshort x hx
    exact ⟨row_of_block (hl' x hx).1 (hl' x hx).2 (by unfold maxLen; omega), h1⟩
  · intro i j s t b hi hj hs ht
    rw [List.getElem?_map, Option.map_eq_some_iff] at hi hj
    obtain ⟨x, hx, rfl⟩ := hi
    obtain ⟨y, hy, rfl⟩ := hj
    refine hap i j x y hx hy ?_
    have h1 : x.g = b := by simpa [Sl.blk, tl, Value.ownBlock] using hs
    have h2 : y.g = b := by simpa [Sl.blk, tl, Value.ownBlock] using ht
    omega
end Go.Proofs.YtapejmmefhbadaaDoor
