import Derived.Test.YtmmnpnhffgpchaaGreatDoorBn32
import Derived.Test.YtmmnpnhffgpchaaGreatDoorBn31
import Derived.OwnWalk
/-
  The document's block, whole.
-/
namespace Go.Proofs.YtmmnpnhffgpchaaGreatDoor
open Go.RowKit
set_option linter.unusedVariables false
theorem block_any (rp : Nat) (a : Option Addr) (n cap : Nat) (L : List Tk) : ∀ (f d : Nat), d + f = 17 → ∀ (w : World) (q made : Nat), Rg w rp a n cap L q 0 0 made → q < n →
    Calls Tryz.prog 37 #[.pointer (some ⟨rp, 0, none⟩), .int .i64 d] w (RrE w rp a n cap L (blkM L f q made)) := by
  intro f
  induction f with
  | zero =>
    intro d hd w q made h hq
    obtain ⟨t, ht⟩ : ∃ t, L[q]? = some t := ⟨L[q]'(by rw [h.len]; exact hq), List.getElem?_eq_getElem _⟩
    exact block_few w rp a n cap L t q made d 0 hd h ht (.inl rfl)
  | succ f ih =>
    intro d hd w q made h hq
    obtain ⟨t, ht⟩ : ∃ t, L[q]? = some t := ⟨L[q]'(by rw [h.len]; exact hq), List.getElem?_eq_getElem _⟩
    by_cases hm : made = 4096
    · exact block_few w rp a n cap L t q made d (f + 1) hd h ht (.inr (.inl hm))
    by_cases h4 : t.kd = 4
    · exact block_few w rp a n cap L t q made d (f + 1) hd h ht (.inr (.inr h4))
    have ih' : ∀ (w : World) (q made : Nat), Rg w rp a n cap L q 0 0 made → q < n → Calls Tryz.prog 37 #[.pointer (some ⟨rp, 0, none⟩), .int .i64 ((d : Int) + 1)] w (RrE w rp a n cap L (blkM L f q made)) := fun w q made h1 h2 => by
      have := ih (d + 1) (by omega) w q made h1 h2
      rwa [Int.natCast_add] at this
    by_cases h3 : t.kd = 3
    · exact block_map w rp a n cap L t q made d f (by omega) h ht hm h3 ih'
    by_cases h2 : t.kd = 2
    · exact block_seq w rp a n cap L t q made d f (by omega) h ht hm h2 ih'
    exact block_odd w rp a n cap L t q made d f (by omega) h ht hm ⟨h2, h3, h4⟩ ih'
end Go.Proofs.YtmmnpnhffgpchaaGreatDoor

/-
  A document's tokens, by the document.
-/
namespace Go.Proofs.YtmmnpnhffgpchaaGreatDoor
open Go.RowKit
set_option linter.unusedVariables false
set_option linter.unusedSimpArgs false
set_option maxRecDepth 100000
/-- tokens in memory, as the document's reader asks for them -/
structure Dt0 (w : World) (g off n : Nat) (L : List Tk) : Prop where
  ts : ∀ (i : Nat) (t : Tk), L[i]? = some t → ∀ (j : Nat) (u : Value), t.row[j]? = some u → w.cell? ⟨g, off + i * 5 + j, none⟩ = some u
  str : ∀ t ∈ L, t.tx.size ≤ maxLen
  len : L.length = n
  small : n ≤ 17592186043904
  glt : g < w.heap.size
  some : 0 < n
def DcE (w : World) (r : Dr) (e : Ending) (w' : World) : Prop := match r with
  | .ok t => ∃ p, e = .returned (.tuple #[.pointer (some ⟨p, 0, none⟩), .int .i64 0, .int .i64 0]) ∧ TrIn w' (fun k => w.heap.size ≤ k ∧ k < w'.heap.size) t p ∧ Below w.heap.size w w'
  | .bad l er => e = .returned (.tuple #[.pointer none, .int .i64 l, .int .i64 er]) ∧ Below w.heap.size w w'
set_option maxHeartbeats 4000000 in
theorem document_any (w : World) (g off n cap : Nat) (L : List Tk) (h : Dt0 w g off n L) :
    Calls Tryz.prog 22 #[.slice (some ⟨g, off, none⟩) n cap] w (DcE w (docM L)) := by
  obtain ⟨t0, ht0⟩ : ∃ t0, L[0]? = some t0 := ⟨L[0]'(by rw [h.len]; exact h.some), List.getElem?_eq_getElem _⟩
  obtain ⟨W, hW⟩ : ∃ W, w.alloc (.cells #[.slice (some ⟨g, off, none⟩) n cap, .int .i64 0, .int .i64 0, .int .i64 0, .int .i64 0] 90) = W := ⟨_, rfl⟩
  have hBW : Below w.heap.size w W := by rw [← hW]; exact (Below.refl _ w).alloc (Nat.le_refl _) _
  have hg0 : Rg W w.heap.size (some ⟨g, off, none⟩) n cap L 0 0 0 0 := {
    blk := by rw [← hW]; exact Go.heap_alloc_new _ _
    ts := by rw [← hW]; exact ⟨h.str, .inr ⟨g, off, rfl, fun i t hi j u hu => cell_al (h.ts i t hi j u hu) _⟩⟩
    low := fun x hx _ => by cases hx; have := h.glt; dsimp only; omega
    len := h.len
    small := h.small
    q := Nat.zero_le _
    made := by decide }
  have hW1 : w.heap.size + 1 = W.heap.size := by rw [← hW]; simp
  have hn0 : 0 < n := h.some
  have i2 : (0 : Int) < (n : Int) := by omega
  have n0 : W.cell? ⟨g, off, none⟩ = some (.int .i64 t0.kd) := by
    have := cell_al (h.ts 0 t0 ht0 0 _ rfl) (.cells #[.slice (some ⟨g, off, none⟩) n cap, .int .i64 0, .int .i64 0, .int .i64 0, .int .i64 0] 90)
    rw [hW] at this
    simpa using this
  have n1 : W.cell? ⟨g, off + 1, none⟩ = some (.int .i64 t0.line) := by
    have := cell_al (h.ts 0 t0 ht0 1 _ rfl) (.cells #[.slice (some ⟨g, off, none⟩) n cap, .int .i64 0, .int .i64 0, .int .i64 0, .int .i64 0] 90)
    rw [hW] at this
    simpa using this
  have hlen := h.len
  have hsm := h.small
  obtain ⟨D, hD⟩ : ∃ D, docM L = D := ⟨_, rfl⟩
  rw [hD]
  unfold docM at hD
  rw [ht0] at hD
  dsimp only at hD
  by_cases hkd : 2 ≤ t0.kd ∧ t0.kd ≤ 4
  · rw [if_pos hkd] at hD
    have k1 : decide (t0.kd < 2) = false := by rw [decide_eq_false_iff_not]; omega
    have k2 : decide (4 < t0.kd) = false := by rw [decide_eq_false_iff_not]; omega
    have hB := block_any w.heap.size (some ⟨g, off, none⟩) n cap L 16 1 (by decide) W 0 0 hg0 hn0
    obtain ⟨R, hR⟩ : ∃ R, blkM L 16 0 0 = R := ⟨_, rfl⟩
    rw [hR] at hB hD
    have HD := hideL hD
    have HBW := hideL hBW
    clear h hg0 ht0 hkd hR hD hBW
    go_enter Tryz.func22, Tryz.ntmps22
    go_wp2_with (fail)
    refine hB.mono ?_
    clear hB
    intro e w2 hE
    cases R with
    | bad l er q3 m3 =>
      obtain ⟨rfl, hrg, hbt⟩ := hE
      obtain ⟨z0, z1, z2, z3, z4⟩ := hrg.cells
      have HE : Hid (∀ w3, Below w2.heap.size w2 w3 → DcE w D (.returned (.tuple #[.pointer none, .int .i64 l, .int .i64 er])) w3) := fun w3 h3 => by
        have hD := HD.out
        subst hD
        have h2 : Below w.heap.size w w2 := HBW.out.trans (hbt.below (by omega) (Nat.le_refl _))
        exact ⟨rfl, h2.trans (h3.mono h2.size)⟩
      clear hrg hbt HD HBW hlen hsm
      go_wp2_with (fail)
      go_region
      go_wp2_with (fail)
      go_ret3
      exact HE.out _ ⟨rfl, rfl, rfl, Nat.le_refl _, fun _ _ => rfl⟩
    | ok t q3 m3 =>
      obtain ⟨p, rfl, htr, hrg, hbt⟩ := hE
      have hlt := hrg.lt
      obtain ⟨z0, z1, z2, z3, z4⟩ := hrg.cells
      have h2 : Below w.heap.size w w2 := HBW.out.trans (hbt.below (by omega) (Nat.le_refl _))
      have HRG := hideL hrg
      rcases hu : L[q3]? with _ | u
      · have hq : n ≤ q3 := by have := List.getElem?_eq_none_iff.1 hu; omega
        have d1 : decide (q3 < n) = false := by rw [decide_eq_false_iff_not]; omega
        have HE : Hid (∀ w3, Below w2.heap.size w2 w3 → DcE w D (.returned (.tuple #[.pointer (some ⟨p, 0, none⟩), .int .i64 0, .int .i64 0])) w3) := fun w3 h3 => by
          have hD := HD.out
          dsimp only at hD
          rw [hu] at hD
          subst hD
          exact ⟨p, rfl, TrIn.turn (fun k hk => ⟨by omega, Nat.lt_of_lt_of_le hk.2 h3.size⟩) (fun k hk => h3.block k hk.2) t p htr, h2.trans (h3.mono h2.size)⟩
        clear hrg hbt HD HBW hlen hsm htr h2 hu HRG hq hlt
        go_wp2_with (fail)
        go_region
        go_wp2_with (fail)
        go_ret3
        exact HE.out _ ⟨rfl, rfl, rfl, Nat.le_refl _, fun _ _ => rfl⟩
      · have hq : q3 < n := by have := (List.getElem?_eq_some_iff.1 hu).1; omega
        have d1 : decide (q3 < n) = true := by rw [decide_eq_true_iff]; omega
        have d2 : (q3 : Int) < (n : Int) := by omega
        have d3 : (0 : Int) ≤ (q3 : Int) := by omega
        have hfl := fail_any w2 w.heap.size (some ⟨g, off, none⟩) n cap L q3 0 m3 u.line 90 hrg
        have y1 : w2.cell? ⟨g, off + q3 * 5 + 1, none⟩ = some (.int .i64 u.line) := by
          rcases hrg.ts.row with hx | ⟨g', off', ha, hcc⟩
          · rw [hx] at hu; simp at hu
          · cases ha
            exact hcc q3 u hu 1 _ rfl
        have HE : Hid (∀ w3, Below w.heap.size w2 w3 → DcE w D (.returned (.tuple #[.pointer none, .int .i64 u.line, .int .i64 90])) w3) := fun w3 h3 => by
          have hD := HD.out
          dsimp only at hD
          rw [hu] at hD
          subst hD
          exact ⟨rfl, h2.trans h3⟩
        have hW2 := hbt.size
        clear hrg hbt HD HBW hlen htr h2 hu HRG hq
        go_wp2_with (fail)
        refine hfl.mono ?_
        clear hfl
        rintro e w3 ⟨rfl, hrg, hbt⟩
        obtain ⟨x0, x1, x2, x3, x4⟩ := hrg.cells
        have HE2 := hideL (HE.out w3 (hbt.below (by omega) (Nat.le_refl _)))
        have HF : Hid (∀ w4, Below w3.heap.size w3 w4 → DcE w D (.returned (.tuple #[.pointer none, .int .i64 u.line, .int .i64 90])) w4) := fun w4 h4 => HE.out w4 ((hbt.below (by omega) (Nat.le_refl _)).trans (h4.mono (by have := hrg.lt; omega)))
        clear hrg hbt HE HE2 hW2 z0 z1 z2 z3 z4 y1
        go_wp2_with (fail)
        go_region
        go_wp2_with (fail)
        go_ret3
        exact HF.out _ ⟨rfl, rfl, rfl, Nat.le_refl _, fun _ _ => rfl⟩
  · rw [if_neg hkd] at hD
    have HE : Hid (∀ w3, Below W.heap.size W w3 → DcE w D (.returned (.tuple #[.pointer none, .int .i64 t0.line, .int .i64 90])) w3) := fun w3 h3 => by
      subst hD
      exact ⟨rfl, hBW.trans (h3.mono hBW.size)⟩
    have HKD : Hid (¬ (2 ≤ t0.kd ∧ t0.kd ≤ 4)) := hkd
    clear h hg0 ht0 hD hBW
    by_cases hl : t0.kd < 2
    · have k1 : decide (t0.kd < 2) = true := by rw [decide_eq_true_iff]; exact hl
      clear hkd hl
      go_enter Tryz.func22, Tryz.ntmps22
      go_wp2_with (fail)
      go_region
      go_wp2_with (fail)
      go_ret3
      exact HE.out _ ⟨rfl, rfl, rfl, Nat.le_refl _, fun _ _ => rfl⟩
    · have k1 : decide (t0.kd < 2) = false := by rw [decide_eq_false_iff_not]; exact hl
      have k2 : decide (4 < t0.kd) = true := by rw [decide_eq_true_iff]; omega
      clear hkd hl
      go_enter Tryz.func22, Tryz.ntmps22
      go_wp2_with (fail)
      go_region
      go_wp2_with (fail)
      go_ret3
      exact HE.out _ ⟨rfl, rfl, rfl, Nat.le_refl _, fun _ _ => rfl⟩
end Go.Proofs.YtmmnpnhffgpchaaGreatDoor

/-
  The law's own: tokens that stay, faults that are the same.
-/
namespace Go.Proofs.YtmmnpnhffgpchaaGreatDoor
open Go.RowKit
set_option linter.unusedVariables false
set_option linter.unusedSimpArgs false
set_option maxRecDepth 100000
/-- the same fault -/
theorem fault_same (w : World) (d l e : Int) :
    Calls Tryz.prog 8 #[.agg #[.int .i64 d, .int .i64 l, .int .i64 e], .agg #[.int .i64 d, .int .i64 l, .int .i64 e]] w fun en w' => en = .returned (.bool true) ∧ Below w.heap.size w w' := by
  go_enter Tryz.func8, Tryz.ntmps8
  go_wp2_with (fail)
  go_ret
  exact ⟨rfl, ((Below.refl _ w).alloc (Nat.le_refl _) _).alloc (by simp) _⟩
end Go.Proofs.YtmmnpnhffgpchaaGreatDoor

/-
  The law's own tokens, with a mark behind them.
-/
namespace Go.Proofs.YtmmnpnhffgpchaaGreatDoor
open Go.RowKit
set_option linter.unusedVariables false
set_option linter.unusedSimpArgs false
set_option maxRecDepth 100000
theorem Tryz.info52 : (Tryz.prog.info? 52).map (fun i => (i.zero, i.size, i.bytes)) = some (some (.agg #[.int .i64 0, .int .i64 0, .int .i64 0, .string ⟨#[]⟩, .bool false]), 5, 48) := by kernel_rfl
def rowsT (L : List Tk) : List Value := L.flatMap Tk.row
theorem rowsT_append (a b : List Tk) : rowsT (a ++ b) = rowsT a ++ rowsT b := by simp [rowsT]
theorem row_oneT (o : Tk) : ∀ u ∈ o.row, u.oneCell' = true := by
  intro u hu
  simp [Tk.row] at hu
  rcases hu with rfl | rfl | rfl | rfl | rfl <;> rfl
theorem below_app {w w3 : World} {base m mm : Nat} {e : TypeId} {sz : Nat} {v : Value} {xs : List Value} {ob : Obj} (h : w.ownsRow base e sz v m xs) (hbase : base ≤ w.heap.size) (hg : ((w.alloc ob).drewN mm).grownBy w3 v.ownBlock) : Below base w w3 := by
  refine ⟨hg.os, hg.tape, hg.output, Nat.le_trans (by simp) hg.size, fun k hk => ?_⟩
  exact (hg.block k (by simp; omega) (fun e => by have := (h.lt k e.symm).1; omega)).trans (Below.heap_alloc w ob k (by omega))
theorem take_row {L : List Tk} {i : Nat} {t : Tk} (h : L[i]? = some t) : rowsT (L.take (i + 1)) = rowsT (L.take i) ++ t.row := by
  rw [List.take_add_one, h, rowsT_append]; simp [rowsT]
def markT : Tk := ⟨-77, 0, 0, ByteArray.empty, false⟩
end Go.Proofs.YtmmnpnhffgpchaaGreatDoor

/-
  What a list of tokens comes to: its documents, or the first fault.
-/
namespace Go.Proofs.YtmmnpnhffgpchaaGreatDoor
open Go.RowKit
set_option linter.unusedVariables false
set_option linter.unusedSimpArgs false
theorem lpM_err {V : Tk → Nat → Nat → Rr} {L : List Tk} {t0 : Tk} (hV : ∀ u q m l e q2 m2, V u q m = .bad l e q2 m2 → e ≠ 0) : ∀ (n : Nat) (acc : List Tr) (q made : Nat) (l e : Int) (q2 m2 : Nat), lpM V L t0 n acc q made = .bad l e q2 m2 → e ≠ 0
  | 0, acc, q, made, l, e, q2, m2, h => by rw [lpM] at h; cases h
  | n + 1, acc, q, made, l, e, q2, m2, h => by
    rw [lpM] at h
    split at h
    · cases h
    · split at h
      · split at h
        · cases h; decide
        · split at h
          · exact lpM_err hV n _ _ _ l e q2 m2 h
          · rename_i hx
            cases h
            exact hV _ _ _ _ _ _ _ hx
      · cases h
theorem blkM_err {L : List Tk} : ∀ (f q made : Nat) (l e : Int) (q2 m2 : Nat), (∃ t, L[q]? = some t) → blkM L f q made = .bad l e q2 m2 → e ≠ 0
  | 0, q, made, l, e, q2, m2, ⟨t, ht⟩, h => by rw [blkM, ht] at h; cases h; decide
  | f + 1, q, made, l, e, q2, m2, ⟨t, ht⟩, h => by
    rw [blkM, ht] at h
    dsimp only at h
    split at h
    · cases h; decide
    · split at h
      · cases h
      · split at h
        · cases h
        · rename_i hx
          cases h
          refine lpM_err (fun u q m l e q2 m2 hv => ?_) _ _ _ _ _ _ _ _ hx
          unfold valM at hv
          split at hv
          · rename_i hn
            refine blkM_err f q m l e q2 m2 ?_ hv
            unfold nxtV at hn
            split at hn
            · rename_i t' ht'; exact ⟨t', ht'⟩
            · cases hn
          · split at hv
            · cases hv; decide
            · cases hv
theorem docM_err {L : List Tk} {l e : Int} (hne : L ≠ []) (h : docM L = .bad l e) : e ≠ 0 := by
  unfold docM at h
  split at h
  · rename_i h0
    rcases L with _ | ⟨t, L⟩
    · exact absurd rfl hne
    · simp at h0
  · rename_i t0 h0
    split at h
    · split at h
      · rename_i hx
        cases h
        exact blkM_err _ _ _ _ _ _ _ ⟨t0, h0⟩ hx
      · split at h
        · cases h; decide
        · cases h
    · cases h; decide
/-- what a list comes to -/
inductive Or where
  | ok (ts : List Tr)
  | bad (doc line err : Int)
/-- a document ends -/
def endM (doc : List Tk) (acc : List Tr) : Or :=
  if doc = [] then .ok acc else match docM doc with
    | .ok t => .ok (acc ++ [t])
    | .bad l e => .bad acc.length l e
/-- from a token on, with the tokens of the document and the documents before -/
def ofM : List Tk → List Tk → List Tr → Or
  | [], doc, acc => endM doc acc
  | t :: L, doc, acc => if t.kd = 1 then (match endM doc acc with
      | .ok acc' => ofM L [] acc'
      | .bad d l e => .bad d l e) else ofM L (doc ++ [t]) acc
end Go.Proofs.YtmmnpnhffgpchaaGreatDoor
