/-
  Slices that are grown one by one, beside what they were: what is read of both.
-/
import Derived.Test.YtfolfeaednmcoabHold
namespace Go.Proofs.Ytfolfeaednmcoab
open Go.RowKit
set_option linter.unusedVariables false
set_option linter.unusedSimpArgs false
/-- the marks -/
noncomputable def mkr (j : Nat) : Nat := floatOfInt .f64 (100 + (j : Int))
noncomputable def nkr (j : Nat) : Nat := floatOfInt .f64 (-(j : Int) - 1)

/-- What is read behind a slice. -/
def Rd (W : World) (s : Fs) : Prop := s.zs.length = s.n ∧ (s.n = 0 ∨ ∃ b cur, s.a = some ⟨b, 0, none⟩ ∧ W.heap[b]? = some (.cells cur 28 (0, 0)) ∧ ∀ k, k < s.n → W.cell? ⟨b, k, none⟩ = some (.float .f64 (s.zs.getD k 0)))
theorem Rd.of_row {W : World} {base : Nat} {s : Fs} (h : RowOf W base s) : Rd W s := by
  obtain ⟨a, n, c, zs⟩ := s
  have h' : W.ownsRow base 28 1 (.slice a n c) n (fvals zs) := h
  have hl : zs.length = n := by have := h'.1; simpa [fvals_length] using this
  refine ⟨hl, ?_⟩
  by_cases h0 : n = 0
  · exact .inl h0
  · rcases h'.2 with ⟨h1, h2⟩ | ⟨g, cp, cur, h1, _, hgg, _⟩
    · exact absurd h2 h0
    · injection h1 with h4 h5 h6
      subst h4
      refine .inr ⟨g, cur, rfl, hgg, fun k hk => ?_⟩
      have hk' : k < n := hk
      rw [h'.cellAt k (by omega), fvals_get _ _ (by omega)]
theorem Rd.keep {W W' : World} {s : Fs} (h : Rd W s) (hb : ∀ b cur, s.blk = some b → W.heap[b]? = some (.cells cur 28 (0, 0)) → W'.heap[b]? = W.heap[b]?) : Rd W' s := by
  refine ⟨h.1, ?_⟩
  rcases h.2 with h0 | ⟨b, cur, ha, hh, hc⟩
  · exact .inl h0
  · have e := hb b cur (by unfold Fs.blk Fs.val; rw [ha]; rfl) hh
    exact .inr ⟨b, cur, ha, e.trans hh, fun k hk => (World.cell?_of_block (w := W) (a := ⟨b, k, none⟩) e).trans (hc k hk)⟩

/-- One that is being grown. -/
structure II (W0 W : World) (base : Nat) (wA : World) (s g : Fs) (t : Nat) (z : Nat) : Prop where
  fr : ∀ b, b < W0.heap.size → some b ≠ s.blk → W.heap[b]? = W0.heap[b]?
  low : Below base wA W
  size : W0.heap.size ≤ W.heap.size
  own : RowOf W base g
  n : g.n = s.n + t
  zs : g.zs = s.zs ++ List.replicate t z
  loc : (g.a = s.a ∧ g.cap = s.cap) ∨ (Rd W s ∧ ∀ b, g.blk = some b → W0.heap.size ≤ b)
theorem II.begin {W0 : World} {base : Nat} {wA : World} {s : Fs} {z : Nat} (h : RowOf W0 base s) (hl : Below base wA W0) : II W0 W0 base wA s s 0 z :=
  ⟨fun _ _ _ => rfl, hl, Nat.le_refl _, h, rfl, by simp, .inl ⟨rfl, rfl⟩⟩
theorem rd_front {W : World} {base : Nat} {s g : Fs} {t : Nat} {z : Nat} (h : RowOf W base g) (ha : g.a = s.a) (hn : g.n = s.n + t) (hz : g.zs = s.zs ++ List.replicate t z) (hl : s.zs.length = s.n) : Rd W s := by
  have hg := Rd.of_row h
  refine ⟨hl, ?_⟩
  rcases hg.2 with h0 | ⟨b, cur, hb, hh, hc⟩
  · exact .inl (by omega)
  · refine .inr ⟨b, cur, ha.symm.trans hb, hh, fun k hk => ?_⟩
    rw [hc k (by omega), hz]
    simp [List.getD, List.getElem?_append_left (show k < s.zs.length by omega)]
theorem II.rd {W0 W : World} {base : Nat} {wA : World} {s g : Fs} {t : Nat} {z : Nat} (h : II W0 W base wA s g t z) (hl : s.zs.length = s.n) : Rd W s := by
  rcases h.loc with ⟨h1, _⟩ | ⟨h1, _⟩
  · exact rd_front h.own h1 h.n h.zs hl
  · exact h1
theorem rep_snoc (zs : List Nat) (t : Nat) (z : Nat) : zs ++ List.replicate t z ++ [z] = zs ++ List.replicate (t + 1) z := by
  rw [List.append_assoc, List.replicate_succ']
theorem II.fits {W0 W w' : World} {base : Nat} {wA : World} {s : Fs} {b n c : Nat} {gz : List Nat} {t : Nat} {z : Nat} {o : Obj} (h : II W0 W base wA s ⟨some ⟨b, 0, none⟩, n, c, gz⟩ t z) (hs : RowOf W0 base s) (hbase : base ≤ W.heap.size)
    (hown : w'.ownsRow base 28 1 (.slice (some ⟨b, 0, none⟩) (n + 1) c) (n + 1) (fvals gz ++ [.float .f64 z])) (hg : (W.alloc o).grownBy w' (some b)) : II W0 w' base wA s ⟨some ⟨b, 0, none⟩, n + 1, c, gz ++ [z]⟩ (t + 1) z := by
  have hgz : gz = s.zs ++ List.replicate t z := h.zs
  have hn : n = s.n + t := h.n
  have hL : W.ownsRow base 28 1 (.slice (some ⟨b, 0, none⟩) n c) n (fvals gz) := h.own
  have hbl := hL.lt b rfl
  have old : ∀ k, k < W.heap.size → k ≠ b → w'.heap[k]? = W.heap[k]? := fun k hk hne => (hg.block k (by simp; omega) (by simp; omega)).trans (Below.heap_alloc W _ k hk)
  have hsz := h.size
  refine ⟨fun k hk hne => ?_, (h.low.alloc hbase o).grown hg (by simp; omega) (fun k hk => by cases hk; exact hbl.1), by have := hg.size; simp at this; omega, ?_, by show n + 1 = s.n + (t + 1); omega, by show gz ++ [z] = _; rw [hgz, rep_snoc], ?_⟩
  · refine (old k (by omega) ?_).trans (h.fr k hk hne)
    rintro rfl
    rcases h.loc with ⟨h1, _⟩ | ⟨_, h1⟩
    · exact hne (by unfold Fs.blk Fs.val; rw [← h1]; rfl)
    · have := h1 k rfl
      omega
  · show w'.ownsRow base 28 1 (.slice (some ⟨b, 0, none⟩) (n + 1) c) (n + 1) (fvals (gz ++ [z]))
    rw [fvals_append]; exact hown
  · rcases h.loc with ⟨h1, h2⟩ | ⟨h1, h2⟩
    · exact .inl ⟨h1, h2⟩
    · refine .inr ⟨h1.keep (fun k cur hk _ => old k ?_ ?_), fun k hk => h2 k hk⟩
      · have := (hs.lt k hk).2; omega
      · rintro rfl
        have h3 := (hs.lt k hk).2
        have h4 := h2 k rfl
        omega
theorem II.grows {W0 W w' : World} {base : Nat} {wA : World} {s : Fs} {a : Option Addr} {n c : Nat} {gz : List Nat} {t : Nat} {z : Nat} {o : Obj} {v' : Value} (h : II W0 W base wA s ⟨a, n, c, gz⟩ t z) (hl : s.zs.length = s.n) (hbase : base ≤ W.heap.size)
    (hown : w'.ownsRow (W.alloc o).heap.size 28 1 v' (n + 1) (fvals gz ++ [.float .f64 z])) (hg : (W.alloc o).grownBy w' none) : ∃ a' c', v' = .slice a' (n + 1) c' ∧ II W0 w' base wA s ⟨a', n + 1, c', gz ++ [z]⟩ (t + 1) z := by
  obtain ⟨a', c', rfl⟩ := own_shape hown
  have hgz : gz = s.zs ++ List.replicate t z := h.zs
  have hn : n = s.n + t := h.n
  have old : ∀ k, k < W.heap.size → w'.heap[k]? = W.heap[k]? := fun k hk => (hg.block k (by simp; omega) (by simp)).trans (Below.heap_alloc W _ k hk)
  have hsz := h.size
  have e : (W.alloc o).heap.size = W.heap.size + 1 := by simp
  refine ⟨a', c', rfl, fun k hk hne => (old k (by omega)).trans (h.fr k hk hne), (h.low.alloc hbase o).grown hg (by simp; omega) (fun k hk => by cases hk), by have := hg.size; omega, ?_, by show n + 1 = s.n + (t + 1); omega, by show gz ++ [z] = _; rw [hgz, rep_snoc], .inr ⟨(h.rd hl).keep (fun k cur hk hc => old k (Array.getElem?_eq_some_iff.1 hc).1), fun k hk => ?_⟩⟩
  · show w'.ownsRow base 28 1 (.slice a' (n + 1) c') (n + 1) (fvals (gz ++ [z]))
    rw [fvals_append]; exact own_base hown (by omega)
  · have := (hown.lt k hk).1
    omega

/-- Those that were grown, those that wait for it. -/
structure PH (W : World) (base : Nat) (v5 v21 : Value) (wA : World) (ss gs : List Fs) : Prop where
  own5 : W.ownsRow base 22 1 v5 ss.length (ss.map Fs.val)
  own21 : W.ownsRow base 22 1 v21 gs.length (gs.map Fs.val)
  ne : ∀ b, v5.ownBlock = some b → v21.ownBlock ≠ some b
  later : ∀ (j : Nat) (s : Fs), gs.length ≤ j → ss[j]? = some s → RowOf W base s
  done : ∀ (j : Nat) (s t : Fs), ss[j]? = some s → gs[j]? = some t → Rd W s ∧ Rd W t ∧ t.n = s.n + 20 ∧ t.zs = s.zs ++ List.replicate 20 (mkr j)
  apart : ApartS ss
  gap : ∀ (j i : Nat) (t s : Fs) (b : Nat), gs[j]? = some t → ss[i]? = some s → i ≠ j → t.blk = some b → s.blk ≠ some b
  low : Below base wA W
  size : base ≤ W.heap.size
  blt : ∀ s ∈ ss, ∀ b, s.blk = some b → b < W.heap.size
  gle : gs.length ≤ ss.length
theorem PH.begin {W : World} {base : Nat} {v : Value} {wA : World} {ss : List Fs} (h : AL W base v wA ss []) : PH W base v (.slice none 0 0) wA ss [] :=
  ⟨h.own, World.ownsRow_nil _ _ _ _, fun b _ => by simp [Value.ownBlock], fun j s _ hs => h.rows s (by simp [List.mem_of_getElem? hs]), fun j s t _ ht => by simp at ht, (fun i j s t b hi hj => h.apart i j s t b (by simpa using hi) (by simpa using hj)), fun j i t s b ht => by simp at ht, h.low, h.size, fun s hs b hb => ((h.rows s (by simp [hs])).lt b hb).2, by simp⟩
theorem PH.mid {W0 W : World} {base : Nat} {v5 v21 : Value} {wA : World} {ss gs : List Fs} {s g : Fs} {t : Nat} {z : Nat} (h : PH W0 base v5 v21 wA ss gs) (hs : ss[gs.length]? = some s) (hI : II W0 W base wA s g t z) :
    W.ownsRow base 22 1 v5 ss.length (ss.map Fs.val) ∧ W.ownsRow base 22 1 v21 gs.length (gs.map Fs.val) := by
  have hr := h.later gs.length s (Nat.le_refl _) hs
  exact ⟨own_block h.own5 (fun k hk => hI.fr k (h.own5.lt k hk).2 (own_ne h.own5 hr (by decide) k hk)), own_block h.own21 (fun k hk => hI.fr k (h.own21.lt k hk).2 (own_ne h.own21 hr (by decide) k hk))⟩
theorem PH.next {W0 W w' : World} {base : Nat} {v5 v21 v' : Value} {wA : World} {ss gs : List Fs} {s g : Fs} {o : Obj} (h : PH W0 base v5 v21 wA ss gs) (hs : ss[gs.length]? = some s) (hI : II W0 W base wA s g 20 (mkr gs.length))
    (hown : w'.ownsRow base 22 1 v' (gs.length + 1) (gs.map Fs.val ++ [g.val])) (hg : (W.alloc o).grownBy w' v21.ownBlock) (hat : v'.ownBlock = v21.ownBlock ∨ v'.ownBlock = some (W.alloc o).heap.size) : PH w' base v5 v' wA ss (gs ++ [g]) := by
  have hr := h.later gs.length s (Nat.le_refl _) hs
  obtain ⟨m5, m21⟩ := h.mid hs hI
  have e : (W.alloc o).heap.size = W.heap.size + 1 := by simp
  have hsz := hI.size
  have hbs : base ≤ W.heap.size := Nat.le_trans h.size hsz
  have old : ∀ k, k < W.heap.size → some k ≠ v21.ownBlock → w'.heap[k]? = W.heap[k]? := fun k hk hne => (hg.block k (by omega) hne).trans (Below.heap_alloc W _ k hk)
  have row : ∀ {t : Fs}, RowOf W base t → RowOf w' base t := fun {t} ht => own_block ht (fun k hk => old k (ht.lt k hk).2 (own_ne ht m21 (by decide) k hk))
  have rd : ∀ {t : Fs}, Rd W t → Rd w' t := fun {t} ht => ht.keep (fun k cur _ hc => old k (Array.getElem?_eq_some_iff.1 hc).1 (fun e' => by
    obtain ⟨cur', h3⟩ := own_cells m21 k e'.symm
    rw [hc] at h3
    cases h3))
  have hsl : s.zs.length = s.n := (Rd.of_row hr).1
  have hlt : gs.length < ss.length := (List.getElem?_eq_some_iff.1 hs).1
  refine ⟨?_, by rw [List.length_append, List.map_append]; exact hown, ?_, ?_, ?_, h.apart, ?_, (hI.low.alloc hbs o).grown hg (by omega) (fun k hk => (m21.lt k hk).1), by have := hg.size; omega, fun x hx b hb => by have := h.blt x hx b hb; have := hg.size; omega, by simp; omega⟩
  · exact own_block m5 (fun k hk => old k (m5.lt k hk).2 (fun e' => h.ne k hk e'.symm))
  · intro b hb e'
    rcases hat with h1 | h1
    · exact h.ne b hb (h1.symm.trans e')
    · rw [h1] at e'
      cases e'
      have := (m5.lt _ hb).2
      omega
  · intro j x hj hx
    have hj' : gs.length + 1 ≤ j := by simpa using hj
    have hx0 := h.later j x (by omega) hx
    refine row (own_block hx0 (fun k hk => hI.fr k (hx0.lt k hk).2 (fun e' => ?_)))
    have := h.apart j gs.length x s k hx hs hk e'.symm
    omega
  · intro j x y hx hy
    rw [List.getElem?_append] at hy
    split at hy
    · rename_i hj
      obtain ⟨d1, d2, d3, d4⟩ := h.done j x y hx hy
      refine ⟨rd (d1.keep (fun k cur hk hc => hI.fr k (Array.getElem?_eq_some_iff.1 hc).1 (fun e' => ?_))), rd (d2.keep (fun k cur hk hc => hI.fr k (Array.getElem?_eq_some_iff.1 hc).1 (fun e' => ?_))), d3, d4⟩
      · have := h.apart j gs.length x s k hx hs hk e'.symm
        omega
      · exact h.gap j gs.length y s k hy hs (by omega) hk e'.symm
    · rename_i hj
      have hj0 : j = gs.length := by
        have := (List.getElem?_eq_some_iff.1 hy).1
        simp at this
        omega
      subst hj0
      simp at hy
      subst hy
      rw [hs] at hx
      cases hx
      exact ⟨rd (hI.rd hsl), rd (Rd.of_row hI.own), hI.n, hI.zs⟩
  · intro j i y x b hy hx hne hb e'
    rw [List.getElem?_append] at hy
    split at hy
    · exact h.gap j i y x b hy hx hne hb e'
    · rename_i hj
      have hj0 : j = gs.length := by
        have := (List.getElem?_eq_some_iff.1 hy).1
        simp at this
        omega
      subst hj0
      simp at hy
      subst hy
      rcases hI.loc with ⟨h1, _⟩ | ⟨_, h1⟩
      · have hsb : s.blk = some b := by
          obtain ⟨sa, sn, sc, sz⟩ := s
          obtain ⟨ga, gn, gc, gz⟩ := g
          simp only at h1
          subst h1
          cases ga with
          | none => simp [Fs.blk, Value.ownBlock] at hb
          | some ad => exact hb
        exact hne (h.apart i gs.length x s b hx hs e' hsb)
      · have h2 := h1 b hb
        have h3 := h.blt x (List.mem_of_getElem? hx) b e'
        omega
end Go.Proofs.Ytfolfeaednmcoab
