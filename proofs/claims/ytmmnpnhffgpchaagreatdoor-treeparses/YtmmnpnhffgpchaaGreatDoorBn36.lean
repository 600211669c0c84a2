import Derived.Test.YtmmnpnhffgpchaaGreatDoorBn35
import Derived.Recover
import Derived.Test.YtmmnpnhffgpchaaGreatDoorBn31
import Derived.Deep.RegionHeld3
import Derived.Deep.RegionLaw
/-
  What a failure says of itself.
-/
namespace Go.Proofs.YtmmnpnhffgpchaaGreatDoor
open Go.RowKit
set_option linter.unusedVariables false
set_option linter.unusedSimpArgs false
set_option maxRecDepth 100000
set_option maxHeartbeats 2000000 in
theorem caught_nil (w : World) : Calls Tryz.prog 17 #[.nilIface] w fun e w' => e = .returned (.agg #[.int .i64 0, .int .i64 0, .int .i64 0]) ∧ Below w.heap.size w w' := by
  go_enter Tryz.func17, Tryz.ntmps17
  go_wp2_with fail
  exact bodyPost_ret (v := .agg #[.int .i64 0, .int .i64 0, .int .i64 0]) (by simp [results, Tryz.results17, go_sem]) rfl ⟨rfl, (Below.refl _ w).alloc (Nat.le_refl _) _⟩
set_option maxHeartbeats 2000000 in
theorem caught_some (w : World) (d l e : Int) : Calls Tryz.prog 17 #[.iface 75 (.agg #[.int .i64 d, .int .i64 l, .int .i64 e])] w fun en w' => en = .returned (.agg #[.int .i64 d, .int .i64 l, .int .i64 e]) ∧ Below w.heap.size w w' := by
  have ht : ∀ w, Sem.run Tryz.prog (Instr.typeAssert (.iface 75 (.agg #[.int .i64 d, .int .i64 l, .int .i64 e])) 20 75 true) w = .ok (.tuple #[.agg #[.int .i64 d, .int .i64 l, .int .i64 e], .bool true]) w := fun w => by rfl
  go_enter Tryz.func17, Tryz.ntmps17
  go_wp2_with fail
  exact bodyPost_ret (v := .agg #[.int .i64 d, .int .i64 l, .int .i64 e]) (by simp [results, Tryz.results17, go_sem]) rfl ⟨rfl, two_alloc _ _ _⟩
end Go.Proofs.YtmmnpnhffgpchaaGreatDoor

/-
  The deferred call that turns a failure into a fault.
-/
namespace Go.Proofs.YtmmnpnhffgpchaaGreatDoor
open Go.RowKit
set_option linter.unusedVariables false
set_option linter.unusedSimpArgs false
set_option maxRecDepth 100000
set_option maxHeartbeats 2000000 in
theorem catch_idle (p r : Addr) (w : World) :
    CallsD Tryz.prog 16 #[.pointer (some p), .pointer (some r)] .returning w fun e u' w' => e = .returned (.tuple #[]) ∧ u' = .returning ∧ Below w.heap.size w w' := by
  refine callsD_of_wpS Tryz.func16 rfl fun c₀ cs hu => ?_
  apply wpS_seq
  apply wpS_region
  simp [wpOpsS, go_sem, recoverD, hu, Tryz.ntmps16, Exit.thenS]
  refine (caught_nil _).mono ?_
  rintro e w1 ⟨rfl, hb⟩
  simp [go_sem]
  refine wpS_of_wp ?_
  show Code.wp _ _ _ { tmps := #[.pointer (some p), .pointer (some r), .pointer (some ⟨w1.heap.size, 0, none⟩), .nilIface, .agg #[.int .i64 0, .int .i64 0, .int .i64 0], undef, undef, undef, undef], defers := [] } _
  have HU := hideL hu
  have HB := hideL hb
  clear hu hb
  go_wp2
  refine ⟨rfl, .returning, by (cases c₀; have := HU.out; dsimp only at this; subst this; rfl), .tuple #[], ?_, rfl, rfl, ?_⟩
  · simp [results, Tryz.results16, go_sem]
  · exact HB.out.alloc HB.out.size _
/-- what the deferred call leaves behind a failure -/
structure Cg (w w' : World) (p r : Nat) (d l er : Int) : Prop where
  pb : w'.heap[p]? = some (.cells #[.slice none 0 0] 24 (0, 0))
  rb : w'.heap[r]? = some (.cells #[.int .i64 d, .int .i64 l, .int .i64 er] 27 (0, 0))
  os : w'.os = w.os
  tape : w'.tape = w.tape
  output : w'.output = w.output
  size : w.heap.size ≤ w'.heap.size
  block : ∀ k, k < w.heap.size → k ≠ p → k ≠ r → w'.heap[k]? = w.heap[k]?
theorem set3t {X : World} {p t : Nat} {a b c : Value} (h : X.heap[p]? = some (.cells #[a, b, c] t (0, 0))) (x y z : Value) :
    (X.frozen? ⟨p, 0, none⟩ = false ∧ (X.setCell ⟨p, 0, none⟩ x).frozen? ⟨p, 1, none⟩ = false ∧ ((X.setCell ⟨p, 0, none⟩ x).setCell ⟨p, 1, none⟩ y).frozen? ⟨p, 2, none⟩ = false) ∧
    (X.cell? ⟨p, 0, none⟩ = some a ∧ (X.setCell ⟨p, 0, none⟩ x).cell? ⟨p, 1, none⟩ = some b ∧ ((X.setCell ⟨p, 0, none⟩ x).setCell ⟨p, 1, none⟩ y).cell? ⟨p, 2, none⟩ = some c) ∧
    (((X.setCell ⟨p, 0, none⟩ x).setCell ⟨p, 1, none⟩ y).setCell ⟨p, 2, none⟩ z).heap[p]? = some (.cells #[x, y, z] t (0, 0)) ∧
    But p X (((X.setCell ⟨p, 0, none⟩ x).setCell ⟨p, 1, none⟩ y).setCell ⟨p, 2, none⟩ z) := by
  have h1 := heap_setCell_same X p 0 _ t x h
  have h2 := heap_setCell_same _ p 1 _ t y h1
  have h3 := heap_setCell_same _ p 2 _ t z h2
  refine ⟨⟨by simp [World.frozen?, h], by simp [World.frozen?, h1], by simp [World.frozen?, h2]⟩, ⟨?_, ?_, ?_⟩, h3, ((But.set 0 x).trans (But.set 1 y)).trans (But.set 2 z)⟩
  · rw [cell_block h]; rfl
  · rw [cell_block h1]; rfl
  · rw [cell_block h2]; rfl
theorem set1t {X : World} {p t : Nat} {a : Value} (h : X.heap[p]? = some (.cells #[a] t (0, 0))) (x : Value) :
    X.frozen? ⟨p, 0, none⟩ = false ∧ X.cell? ⟨p, 0, none⟩ = some a ∧ (X.setCell ⟨p, 0, none⟩ x).heap[p]? = some (.cells #[x] t (0, 0)) ∧ But p X (X.setCell ⟨p, 0, none⟩ x) := by
  have h1 := heap_setCell_same X p 0 _ t x h
  refine ⟨by simp [World.frozen?, h], ?_, h1, But.set 0 x⟩
  rw [cell_block h]; rfl
set_option maxHeartbeats 4000000 in
theorem catch_bad (p r : Nat) (d l er : Int) (v : Value) (a b c : Value) (w : World) (hp : w.heap[p]? = some (.cells #[v] 24 (0, 0))) (hr : w.heap[r]? = some (.cells #[a, b, c] 27 (0, 0))) (hne : p ≠ r) (her : er ≠ 0) :
    CallsD Tryz.prog 16 #[.pointer (some ⟨p, 0, none⟩), .pointer (some ⟨r, 0, none⟩)] (.panicking [{ v := .iface 75 (.agg #[.int .i64 d, .int .i64 l, .int .i64 er]), recovered := false }]) w fun e u' w' => e = .returned (.tuple #[]) ∧ u' = .panicking [{ v := .iface 75 (.agg #[.int .i64 d, .int .i64 l, .int .i64 er]), recovered := true }] ∧ Cg w w' p r d l er := by
  refine callsD_of_wpS Tryz.func16 rfl fun c₀ cs hu => ?_
  apply wpS_seq
  apply wpS_region
  simp [wpOpsS, go_sem, recoverD, hu, Tryz.ntmps16, Exit.thenS]
  refine (caught_some _ d l er).mono ?_
  rintro e w1 ⟨rfl, hb⟩
  simp [go_sem]
  refine wpS_of_wp ?_
  show Code.wp _ _ _ { tmps := #[.pointer (some ⟨p, 0, none⟩), .pointer (some ⟨r, 0, none⟩), .pointer (some ⟨w1.heap.size, 0, none⟩), .iface 75 (.agg #[.int .i64 d, .int .i64 l, .int .i64 er]), .agg #[.int .i64 d, .int .i64 l, .int .i64 er], undef, undef, undef, undef], defers := [] } _
  have HU := hideL hu
  have hpl : p < w.heap.size := (Array.getElem?_eq_some_iff.1 hp).1
  have hrl : r < w.heap.size := (Array.getElem?_eq_some_iff.1 hr).1
  have hnb : w.heap.size ≤ w1.heap.size := hb.size
  have hXb : Below w.heap.size w (w1.alloc (Obj.cells #[.int .i64 d, .int .i64 l, .int .i64 er] 27)) := hb.alloc hb.size _
  have hXp := (hXb.block p hpl).trans hp
  have hXr := (hXb.block r hrl).trans hr
  have hXn : (w1.alloc (Obj.cells #[.int .i64 d, .int .i64 l, .int .i64 er] 27)).heap[w1.heap.size]? = some (.cells #[.int .i64 d, .int .i64 l, .int .i64 er] 27 (0, 0)) := Go.heap_alloc_new _ _
  have hXs : w1.heap.size < (w1.alloc (Obj.cells #[.int .i64 d, .int .i64 l, .int .i64 er] 27)).heap.size := by simp
  generalize (w1.alloc (Obj.cells #[.int .i64 d, .int .i64 l, .int .i64 er] 27)) = X at *
  generalize w1.heap.size = N at *
  have hpN : p ≠ N := by omega
  have hrN : r ≠ N := by omega
  obtain ⟨p1, p2, p3, p4⟩ := set1t hXp (.slice none 0 0)
  obtain ⟨⟨r1, r2, r3⟩, ⟨r4, r5, r6⟩, r7, r8⟩ := set3t hXr (.int .i64 d) (.int .i64 l) (.int .i64 er)
  have hYr := (p4.block r (Nat.lt_of_lt_of_le hrl hXb.size) hne.symm).trans hXr
  obtain ⟨⟨y1, y2, y3⟩, ⟨y4, y5, y6⟩, y7, y8⟩ := set3t hYr (.int .i64 d) (.int .i64 l) (.int .i64 er)
  have hZp := (r8.block p (Nat.lt_of_lt_of_le hpl hXb.size) hne).trans hXp
  obtain ⟨z1, z2, z3, z4⟩ := set1t hZp (.slice none 0 0)
  have n0 : X.cell? ⟨N, 0, none⟩ = some (.int .i64 d) := by rw [cell_block hXn]; rfl
  have n1 : X.cell? ⟨N, 1, none⟩ = some (.int .i64 l) := by rw [cell_block hXn]; rfl
  have n2 : X.cell? ⟨N, 2, none⟩ = some (.int .i64 er) := by rw [cell_block hXn]; rfl
  have hYn := (p4.block N hXs (Ne.symm hpN)).trans hXn
  have m0 : (X.setCell ⟨p, 0, none⟩ (.slice none 0 0)).cell? ⟨N, 0, none⟩ = some (.int .i64 d) := by rw [cell_block hYn]; rfl
  have m1 : (X.setCell ⟨p, 0, none⟩ (.slice none 0 0)).cell? ⟨N, 1, none⟩ = some (.int .i64 l) := by rw [cell_block hYn]; rfl
  have m2 : (X.setCell ⟨p, 0, none⟩ (.slice none 0 0)).cell? ⟨N, 2, none⟩ = some (.int .i64 er) := by rw [cell_block hYn]; rfl
  have hE : (er == 0) = false := by rw [beq_eq_false_iff_ne]; exact her
  have HA : Hid (Cg w ((((X.setCell ⟨p, 0, none⟩ (.slice none 0 0)).setCell ⟨r, 0, none⟩ (.int .i64 d)).setCell ⟨r, 1, none⟩ (.int .i64 l)).setCell ⟨r, 2, none⟩ (.int .i64 er)).drew p r d l er) := {
    pb := (y8.block p (Nat.lt_of_lt_of_le (Nat.lt_of_lt_of_le hpl hXb.size) p4.size) hne).trans p3
    rb := y7
    os := (y8.os.trans p4.os).trans hXb.os
    tape := (y8.tape.trans p4.tape).trans hXb.tape
    output := (y8.output.trans p4.output).trans hXb.output
    size := Nat.le_trans (Nat.le_trans hXb.size p4.size) y8.size
    block := fun k hk h1 h2 => ((y8.block k (Nat.lt_of_lt_of_le (Nat.lt_of_lt_of_le hk hXb.size) p4.size) h2).trans (p4.block k (Nat.lt_of_lt_of_le hk hXb.size) h1)).trans (hXb.block k hk) }
  have HC : Hid (Cg w ((((X.setCell ⟨r, 0, none⟩ (.int .i64 d)).setCell ⟨r, 1, none⟩ (.int .i64 l)).setCell ⟨r, 2, none⟩ (.int .i64 er)).setCell ⟨p, 0, none⟩ (.slice none 0 0)).drew p r d l er) := {
    pb := z3
    rb := (z4.block r (Nat.lt_of_lt_of_le (Nat.lt_of_lt_of_le hrl hXb.size) r8.size) hne.symm).trans r7
    os := (z4.os.trans r8.os).trans hXb.os
    tape := (z4.tape.trans r8.tape).trans hXb.tape
    output := (z4.output.trans r8.output).trans hXb.output
    size := Nat.le_trans (Nat.le_trans hXb.size r8.size) z4.size
    block := fun k hk h1 h2 => ((z4.block k (Nat.lt_of_lt_of_le (Nat.lt_of_lt_of_le hk hXb.size) r8.size) h1).trans (r8.block k (Nat.lt_of_lt_of_le hk hXb.size) h2)).trans (hXb.block k hk) }
  clear hu hb hp hr her hXb hXp hXr hXn hYr hZp hYn p3 p4 r7 r8 y7 y8 z3 z4 hpl hrl hnb hXs
  go_wp2_with fail
  go_region
  all_goals
    go_wp2
    refine ⟨rfl, _, rfl, .tuple #[], by simp [results, Tryz.results16, go_sem], rfl, rfl, ?_⟩
    first | exact HA.out | exact HC.out
end Go.Proofs.YtmmnpnhffgpchaaGreatDoor

/-
  The tokens ahead of the first one that begins a document, and those behind it.
-/
namespace Go.Proofs.YtmmnpnhffgpchaaGreatDoor
open Go.RowKit
set_option linter.unusedVariables false
set_option linter.unusedSimpArgs false
set_option maxRecDepth 100000
theorem isDoc_any (t : Tk) (w : World) : Calls Tryz.prog 30 #[tokV t] w fun e w' => e = .returned (.bool (t.kd == 1)) ∧ Below w.heap.size w w' := by
  obtain ⟨kd, line, col, tx, quo⟩ := t
  unfold tokV
  dsimp only
  go_enter Tryz.func30, Tryz.ntmps30
  go_wp2
  go_ret
  exact ⟨rfl, (Below.refl _ w).alloc (Nat.le_refl _) _⟩
/-- the number of the first token that begins a document; so many as there are, if there is none -/
def docAt (L : List Tk) : Nat := (L.takeWhile (fun t => !(t.kd == 1))).length
theorem docAt_le (L : List Tk) : docAt L ≤ L.length := by
  unfold docAt
  exact (List.takeWhile_sublist _).length_le
theorem docAt_ahead {L : List Tk} {i : Nat} {t : Tk} (hi : i < docAt L) (ht : L[i]? = some t) : (t.kd == 1) = false := by
  unfold docAt at hi
  have h1 : (L.takeWhile (fun t => !(t.kd == 1)))[i]? = some t := by
    have hp := List.takeWhile_prefix (l := L) (fun t => !(t.kd == 1))
    obtain ⟨r, hr⟩ := hp
    rw [← hr, List.getElem?_append_left hi] at ht
    exact ht
  have h2 := List.mem_of_getElem? h1
  have h3 := List.all_takeWhile (p := fun t => !(t.kd == 1)) (l := L)
  rw [List.all_eq_true] at h3
  have := h3 t h2
  simpa using this
theorem docAt_at {L : List Tk} {t : Tk} (ht : L[docAt L]? = some t) : (t.kd == 1) = true := by
  induction L with
  | nil => simp at ht
  | cons x L ih =>
    unfold docAt at ht ih
    rw [List.takeWhile_cons] at ht
    cases hx : (x.kd == 1) with
    | true =>
      rw [hx] at ht
      simp at ht
      subst ht
      exact hx
    | false =>
      rw [hx] at ht
      simp at ht
      exact ih ht
set_option maxHeartbeats 4000000 in
theorem index_any (w : World) (g off n cap : Nat) (L : List Tk) (h : Dt w g off n cap L) :
    Calls Tryz.prog 29 #[.slice (some ⟨g, off, none⟩) n cap, .func (.func 30) #[] #[]] w fun e w' => e = .returned (.int .i64 (if docAt L < n then (docAt L : Int) else -1)) ∧ Below w.heap.size w w' := by
  have HD := hideL h
  have hlen := h.len
  have hsm := h.small
  obtain ⟨Z, hZ⟩ : ∃ Z, (if docAt L < n then (docAt L : Int) else -1) = Z := ⟨_, rfl⟩
  rw [hZ]
  have HZ := hideL hZ
  clear h hZ
  go_enter Tryz.func29, Tryz.ntmps29
  go_wp2_with (fail)
  go_loopw [8] (fun t wr => ∃ i : Nat, t = .int .i64 i ∧ i ≤ docAt L ∧ Below w.heap.size w wr) (fun t _ => n - (intOf t).toNat)
  case atStart => exact ⟨0, rfl, Nat.zero_le _, Below.refl _ _⟩
  case round =>
    obtain ⟨i, rfl, hi, hb⟩ := hrel
    have hd := docAt_le L
    have i0 : (0 : Int) ≤ (i : Int) := by omega
    have HB := hideL hb
    by_cases hin : i < n
    · have hin' : (i : Int) < (n : Int) := by omega
      obtain ⟨t, ht⟩ : ∃ t, L[i]? = some t := ⟨L[i]'(by omega), List.getElem?_eq_getElem _⟩
      have yy : ∀ (j : Nat) (u : Value), t.row[j]? = some u → wr.cell? ⟨g, off + i * 5 + j, none⟩ = some u := fun j u hu => by
        rw [← HD.out.ts i t ht j u hu]
        exact World.cell?_of_block (w := w) (a := ⟨g, off + i * 5 + j, none⟩) (hb.block g HD.out.glt)
      have y0 : wr.cell? ⟨g, off + i * 5, none⟩ = some (.int .i64 t.kd) := yy 0 _ rfl
      have y1 := yy 1 _ rfl
      have y2 := yy 2 _ rfl
      have y3 := yy 3 _ rfl
      have y4 := yy 4 _ rfl
      have hI := isDoc_any t wr
      have HHT := hideL ht
      cases hk : (t.kd == 1) with
      | true =>
        have HE : Hid (Z = (i : Int)) := by
          have : i = docAt L := by
            rcases Nat.lt_or_eq_of_le hi with hlt | he
            · have := docAt_ahead hlt ht
              rw [this] at hk; cases hk
            · exact he
          show _ = _
          rw [← HZ.out, ← this, if_pos hin]
        rw [hk] at hI
        obtain ⟨kd, line, col, tx, quo⟩ := t
        unfold tokV at hI
        dsimp only at *
        clear hk ht yy hb hi hd
        go_wp2_with (go_at_call 30; refine hI.mono ?_; rintro e w1 ⟨rfl, hb1⟩)
        go_ret
        exact ⟨by rw [HE.out]; rfl, HB.out.trans (hb1.mono HB.out.size)⟩
      | false =>
        have HI : Hid (i + 1 ≤ docAt L) := by
          rcases Nat.lt_or_eq_of_le hi with hlt | he
          · exact hlt
          · subst he
            have := docAt_at ht
            rw [hk] at this; cases this
        rw [hk] at hI
        obtain ⟨kd, line, col, tx, quo⟩ := t
        unfold tokV at hI
        dsimp only at *
        clear hk ht yy hb hi hd
        go_wp2_with (go_at_call 30; refine hI.mono ?_; rintro e w1 ⟨rfl, hb1⟩)
        go_roundw
        case rel => exact ⟨i + 1, by go_num, HI.out, HB.out.trans (hb1.mono HB.out.size)⟩
        case measure => simp [intOf]; omega
    · have hin' : ¬ (i : Int) < (n : Int) := by omega
      have HE : Hid (Z = (-1 : Int)) := by show _ = _; rw [← HZ.out, if_neg (by omega)]
      clear hb
      go_wp2
      go_ret
      exact ⟨by rw [HE.out]; rfl, HB.out⟩
theorem cut_no (w : World) (g off n cap : Nat) (L : List Tk) (h : Dt w g off n cap L) (hd : docAt L = n) :
    Calls Tryz.prog 18 #[.slice (some ⟨g, off, none⟩) n cap] w fun e w' => e = .returned (.tuple #[.slice (some ⟨g, off, none⟩) n cap, .slice none 0 0]) ∧ Below w.heap.size w w' := by
  have hI := index_any w g off n cap L h
  rw [if_neg (by omega)] at hI
  clear h hd
  go_enter Tryz.func18, Tryz.ntmps18
  go_wp2_with (go_at_call 29; refine hI.mono ?_; rintro e w1 ⟨rfl, hb⟩)
  go_ret2
  exact ⟨rfl, hb⟩
set_option maxHeartbeats 4000000 in
theorem cut_yes (w : World) (g off n cap D : Nat) (L : List Tk) (h : Dt w g off n cap L) (hD : docAt L = D) (hd : D < n) :
    Calls Tryz.prog 18 #[.slice (some ⟨g, off, none⟩) n cap] w fun e w' => ∃ o2, e = .returned (.tuple #[.slice (some ⟨g, off, none⟩) D cap, .slice (some ⟨g, o2, none⟩) (n - (D + 1)) (cap - (D + 1))]) ∧ (D + 1 < n → o2 = off + (D + 1) * 5) ∧ Below w.heap.size w w' := by
  have hI := index_any w g off n cap L h
  rw [hD, if_pos hd] at hI
  have hcap := h.ncap
  have hce := h.cape
  have d0 : (0 : Int) ≤ (D : Int) := by omega
  have d1 : (D : Int) ≤ (cap : Int) := by omega
  have d2 : (D : Int) + 1 ≤ (n : Int) := by omega
  have d3 : (D : Int) < (n : Int) := by omega
  clear h hD
  by_cases hc : D + 1 = cap
  · have e1 : cap - (D + 1) = 0 := by omega
    have e2 : n - (D + 1) = 0 := by omega
    have e3 : cap = n := by omega
    subst e3
    rw [e1]
    go_enter Tryz.func18, Tryz.ntmps18
    go_wp2_with (go_at_call 29; refine hI.mono ?_; rintro e w1 ⟨rfl, hb⟩)
    go_quiet (fail)
    go_wp2
    go_ret2
    exact ⟨off, rfl, fun _ => by omega, below_drewN hb _⟩
  · have hc2 : D + 1 < cap := by omega
    go_enter Tryz.func18, Tryz.ntmps18
    go_wp2_with (go_at_call 29; refine hI.mono ?_; rintro e w1 ⟨rfl, hb⟩)
    go_quiet (fail)
    go_wp2
    go_ret2
    exact ⟨off + (D + 1) * 5, rfl, fun _ => rfl, below_drewN hb _⟩
end Go.Proofs.YtmmnpnhffgpchaaGreatDoor

/-
  A list of tokens cut into its documents.
-/
namespace Go.Proofs.YtmmnpnhffgpchaaGreatDoor
open Go.RowKit
set_option linter.unusedVariables false
set_option linter.unusedSimpArgs false
set_option maxRecDepth 100000
theorem ofM_cut : ∀ (L doc : List Tk) (acc : List Tr), ofM L doc acc = match endM (doc ++ L.take (docAt L)) acc with
    | .ok acc' => ofM (L.drop (docAt L + 1)) [] acc'
    | .bad d l e => .bad d l e
  | [], doc, acc => by
    rw [ofM]
    simp only [List.take_nil, List.append_nil, List.drop_nil]
    split
    · rename_i acc' h; rw [h, ofM, endM, if_pos rfl]
    · rename_i h; rw [h]
  | t :: L, doc, acc => by
    rw [ofM]
    by_cases h : t.kd = 1
    · have e : docAt (t :: L) = 0 := by simp [docAt, h]
      rw [if_pos h, e]
      simp only [List.take_zero, List.append_nil, List.drop_succ_cons, List.drop_zero]
      rfl
    · have e : docAt (t :: L) = docAt L + 1 := by
        unfold docAt
        rw [List.takeWhile_cons]
        simp [h]
      rw [if_neg h, e, ofM_cut L (doc ++ [t]) acc]
      simp
theorem Dt.take {w : World} {g off n cap D : Nat} {L : List Tk} (h : Dt w g off n cap L) (hD : D ≤ n) (h0 : 0 < D) : Dt w g off D cap (L.take D) where
  ts := fun i t hi j u hu => by
    have h1 : i < D := by have := (List.getElem?_eq_some_iff.1 hi).1; simp at this; omega
    rw [List.getElem?_take_of_lt h1] at hi
    exact h.ts i t hi j u hu
  str := fun t ht => h.str t (List.mem_of_mem_take ht)
  len := by have := h.len; simp; omega
  small := Nat.le_trans hD h.small
  ncap := Nat.le_trans hD h.ncap
  cape := h.cape
  glt := h.glt
  some := h0
theorem Dt.drop {w : World} {g off n cap D : Nat} {L : List Tk} (h : Dt w g off n cap L) (hD : D < n) : Dt w g (off + D * 5) (n - D) (cap - D) (L.drop D) where
  ts := fun i t hi j u hu => by
    rw [List.getElem?_drop] at hi
    have := h.ts (D + i) t hi j u hu
    rw [show off + D * 5 + i * 5 + j = off + (D + i) * 5 + j by omega]
    exact this
  str := fun t ht => h.str t (List.mem_of_mem_drop ht)
  len := by have := h.len; simp; omega
  small := Nat.le_trans (Nat.sub_le _ _) h.small
  ncap := Nat.sub_le_sub_right h.ncap _
  cape := Nat.le_trans (Nat.sub_le _ _) h.cape
  glt := h.glt
  some := by omega
theorem Dt.below {w w' : World} {g off n cap : Nat} {L : List Tk} (h : Dt w g off n cap L) (hb : Below w.heap.size w w') : Dt w' g off n cap L :=
  { h with ts := fun i t hi j u hu => (World.cell?_of_block (w := w) (a := ⟨g, off + i * 5 + j, none⟩) (hb.block g h.glt)).trans (h.ts i t hi j u hu), glt := Nat.lt_of_lt_of_le h.glt hb.size }
/-- tokens that are left -/
structure Tp (w : World) (x : Option Addr) (m c : Nat) (K : List Tk) : Prop where
  len : K.length = m
  at_ : 0 < m → ∃ g o, x = some ⟨g, o, none⟩ ∧ Dt w g o m c K
theorem cut_any (w wr : World) (g off n cap D : Nat) (L : List Tk) (h : Dt w g off n cap L) (hb : Below w.heap.size w wr) (hD : docAt L = D) :
    Calls Tryz.prog 18 #[.slice (some ⟨g, off, none⟩) n cap] wr fun e w' => ∃ x m c, e = .returned (.tuple #[.slice (some ⟨g, off, none⟩) D cap, .slice x m c]) ∧ Tp w x m c (L.drop (D + 1)) ∧ Below wr.heap.size wr w' := by
  have hle := docAt_le L
  have hlen := h.len
  by_cases hd : D = n
  · refine (cut_no wr g off n cap L (h.below hb) (by omega)).mono ?_
    rintro e w' ⟨rfl, hb'⟩
    refine ⟨none, 0, 0, by rw [hd], ⟨by simp; omega, fun h => by omega⟩, hb'⟩
  · refine (cut_yes wr g off n cap D L (h.below hb) hD (by omega)).mono ?_
    rintro e w' ⟨o2, rfl, ho, hb'⟩
    refine ⟨_, _, _, rfl, ⟨by simp; omega, fun h0 => ⟨g, o2, rfl, ?_⟩⟩, hb'⟩
    rw [ho (by omega)]
    exact h.drop (by omega)
/-- the trees under way: their variable, the fault's -/
structure Oz (w wr : World) (K : List Tk) (acc : List Tr) (vs : List Value) (v : Value) (R : Or) : Prop where
  go : ofM K [] acc = R
  out : Ots wr (w.heap.size + 2) v acc vs
  pb : wr.heap[w.heap.size]? = some (.cells #[v] 24 (0, 0))
  rb : wr.heap[w.heap.size + 1]? = some (.cells #[.int .i64 0, .int .i64 0, .int .i64 0] 27 (0, 0))
  bel : Below w.heap.size w wr
  big : w.heap.size + 2 ≤ wr.heap.size
theorem Oz.below {w wr w' : World} {K : List Tk} {acc : List Tr} {vs : List Value} {v : Value} {R : Or} (h : Oz w wr K acc vs v R) (hb : Below wr.heap.size wr w') : Oz w w' K acc vs v R where
  go := h.go
  out := h.out.below hb
  pb := (hb.block _ (by have := h.big; omega)).trans h.pb
  rb := (hb.block _ (by have := h.big; omega)).trans h.rb
  bel := h.bel.trans (hb.mono h.bel.size)
  big := Nat.le_trans h.big hb.size
theorem Oz.start (w : World) (L : List Tk) : Oz w ((w.alloc (.cells #[.slice none 0 0] 24)).alloc (.cells #[.int .i64 0, .int .i64 0, .int .i64 0] 27)) L [] [] (.slice none 0 0) (ofM L [] []) where
  go := rfl
  out := Ots.nil _ _
  pb := by rw [Below.heap_alloc _ _ _ (by simp)]; exact Go.heap_alloc_new _ _
  rb := alloc2_new _ _ _
  bel := two_alloc _ _ _
  big := by simp
end Go.Proofs.YtmmnpnhffgpchaaGreatDoor

/-
  A deferred call looks at two variables of the frame alone.
-/
namespace Go.Proofs.YtmmnpnhffgpchaaGreatDoor
open Go.RowKit
set_option linter.unusedVariables false
set_option linter.unusedSimpArgs false
theorem results6_put (d : Nat) (h2 : d ≠ 2) (h3 : d ≠ 3) (v : Value) (tmps : Array Value) : results Tryz.f11 (tmps.setIfInBounds d v) = results Tryz.f11 tmps := by
  have e2 : (tmps.setIfInBounds d v).getD 2 undef = tmps.getD 2 undef := by simp [Array.getD_eq_getD_getElem?, Array.getElem?_setIfInBounds_ne h2]
  have e3 : (tmps.setIfInBounds d v).getD 3 undef = tmps.getD 3 undef := by simp [Array.getD_eq_getD_getElem?, Array.getElem?_setIfInBounds_ne h3]
  unfold results
  simp [Tryz.results11, e2, e3, h2, h3]
theorem leaves6_put (d : Nat) (h2 : d ≠ 2) (h3 : d ≠ 3) (v : Value) (tmps : Array Value) (R : Ending → World → Prop) : ∀ (ds : List Deferred) (u : FrameMode) (w : World), Leaves Tryz.prog Tryz.f11 (tmps.setIfInBounds d v) R ds u w → Leaves Tryz.prog Tryz.f11 tmps R ds u w
  | [], .returning, w, h => by
    obtain ⟨x, hx, hr⟩ := h
    rw [results6_put d h2 h3] at hx
    exact ⟨x, hx, hr⟩
  | [], .panicking c, w, h => h
  | [], .run, w, h => h
  | e :: ds, u, w, h => by
    obtain ⟨hu, fv, cap, f, args, ht, hi, hc⟩ := h
    refine ⟨hu, fv, cap, f, args, ht, hi, hc.mono ?_⟩
    intro en u' w' hh
    cases en with
    | returned x => exact leaves6_put d h2 h3 v tmps R ds _ _ hh
    | panicked ch => exact leaves6_put d h2 h3 v tmps R ds _ _ hh
    | outgrown => exact hh
end Go.Proofs.YtmmnpnhffgpchaaGreatDoor

/-
  The program's trees of a list of tokens.
-/
namespace Go.Proofs.YtmmnpnhffgpchaaGreatDoor
open Go.RowKit
set_option linter.unusedVariables false
set_option linter.unusedSimpArgs false
set_option maxRecDepth 100000
theorem Ots.low {w : World} {b1 b2 : Nat} {v : Value} {ts : List Tr} {vs : List Value} (h : Ots w b1 v ts vs) (hb : b2 ≤ b1) : Ots w b2 v ts vs :=
  ⟨own_low' h.row hb, fun i t ht => by
    obtain ⟨x, ns, h1, h2, h3, h4⟩ := h.each i t ht
    exact ⟨x, ns, h1, own_low2 h2 hb, h3, h4⟩⟩
/-- written elsewhere: the trees stay -/
theorem Ots.keep {w w' : World} {base : Nat} {v : Value} {ts : List Tr} {vs : List Value} (h : Ots w base v ts vs) (hb : ∀ k, base ≤ k → k < w.heap.size → w'.heap[k]? = w.heap[k]?) : Ots w' base v ts vs :=
  ⟨own_block h.row fun k hk => hb k (h.row.lt k hk).1 (h.row.lt k hk).2, fun i t ht => by
    obtain ⟨x, ns, h1, h2, h3, h4⟩ := h.each i t ht
    exact ⟨x, ns, h1, h2.keep (fun k hk => hb k (h2.row.lt k hk).1 (h2.row.lt k hk).2) (fun o ho k hk => hb k ((h2.kids o ho).1.lt k hk).1 ((h2.kids o ho).1.lt k hk).2), h3, h4⟩⟩
/-- the end: the trees as they are, no fault -/
theorem Oz.done {w wr : World} {acc : List Tr} {vs : List Value} {v : Value} {R : Or} (h : Oz w wr [] acc vs v R) :
    ∃ X, (((wr.setCell ⟨w.heap.size, 0, none⟩ v).setCell ⟨w.heap.size + 1, 0, none⟩ (.int .i64 0)).setCell ⟨w.heap.size + 1, 1, none⟩ (.int .i64 0)).setCell ⟨w.heap.size + 1, 2, none⟩ (.int .i64 0) = X ∧
    (wr.frozen? ⟨w.heap.size, 0, none⟩ = false ∧ wr.cell? ⟨w.heap.size, 0, none⟩ = some v) ∧
    ((wr.setCell ⟨w.heap.size, 0, none⟩ v).frozen? ⟨w.heap.size + 1, 0, none⟩ = false ∧ ((wr.setCell ⟨w.heap.size, 0, none⟩ v).setCell ⟨w.heap.size + 1, 0, none⟩ (.int .i64 0)).frozen? ⟨w.heap.size + 1, 1, none⟩ = false ∧ (((wr.setCell ⟨w.heap.size, 0, none⟩ v).setCell ⟨w.heap.size + 1, 0, none⟩ (.int .i64 0)).setCell ⟨w.heap.size + 1, 1, none⟩ (.int .i64 0)).frozen? ⟨w.heap.size + 1, 2, none⟩ = false) ∧
    ((wr.setCell ⟨w.heap.size, 0, none⟩ v).cell? ⟨w.heap.size + 1, 0, none⟩ = some (.int .i64 0) ∧ ((wr.setCell ⟨w.heap.size, 0, none⟩ v).setCell ⟨w.heap.size + 1, 0, none⟩ (.int .i64 0)).cell? ⟨w.heap.size + 1, 1, none⟩ = some (.int .i64 0) ∧ (((wr.setCell ⟨w.heap.size, 0, none⟩ v).setCell ⟨w.heap.size + 1, 0, none⟩ (.int .i64 0)).setCell ⟨w.heap.size + 1, 1, none⟩ (.int .i64 0)).cell? ⟨w.heap.size + 1, 2, none⟩ = some (.int .i64 0)) ∧
    ∀ w', Below X.heap.size X w' → (w'.cell? ⟨w.heap.size, 0, none⟩ = some v ∧ w'.cell? ⟨w.heap.size + 1, 0, none⟩ = some (.int .i64 0) ∧ w'.cell? ⟨w.heap.size + 1, 1, none⟩ = some (.int .i64 0) ∧ w'.cell? ⟨w.heap.size + 1, 2, none⟩ = some (.int .i64 0)) ∧ OfE w R (.returned (.tuple #[v, .agg #[.int .i64 0, .int .i64 0, .int .i64 0]])) w' := by
  have hbig := h.big
  obtain ⟨p1, p2, p3, p4⟩ := set1t h.pb v
  have hYr := (p4.block (w.heap.size + 1) (by omega) (by omega)).trans h.rb
  obtain ⟨⟨y1, y2, y3⟩, ⟨y4, y5, y6⟩, y7, y8⟩ := set3t hYr (.int .i64 0) (.int .i64 0) (.int .i64 0)
  refine ⟨_, rfl, ⟨p1, p2⟩, ⟨y1, y2, y3⟩, ⟨y4, y5, y6⟩, fun w' hb => ?_⟩
  have hYp := (y8.block w.heap.size (by have := p4.size; omega) (by omega)).trans p3
  have hs : wr.heap.size ≤ ((((wr.setCell ⟨w.heap.size, 0, none⟩ v).setCell ⟨w.heap.size + 1, 0, none⟩ (.int .i64 0)).setCell ⟨w.heap.size + 1, 1, none⟩ (.int .i64 0)).setCell ⟨w.heap.size + 1, 2, none⟩ (.int .i64 0)).heap.size := Nat.le_trans p4.size y8.size
  have hp := (hb.block w.heap.size (by omega)).trans hYp
  have hr := (hb.block (w.heap.size + 1) (by omega)).trans y7
  have hk : ∀ k, k < wr.heap.size → k ≠ w.heap.size → k ≠ w.heap.size + 1 → w'.heap[k]? = wr.heap[k]? := fun k h1 h2 h3 => ((hb.block k (by omega)).trans (y8.block k (by have := p4.size; omega) h3)).trans (p4.block k h1 h2)
  refine ⟨⟨?_, ?_, ?_, ?_⟩, ?_⟩
  · rw [cell_block hp]; rfl
  · rw [cell_block hr]; rfl
  · rw [cell_block hr]; rfl
  · rw [cell_block hr]; rfl
  · have hR : R = .ok acc := by rw [← h.go, ofM, endM, if_pos rfl]
    subst hR
    have hsz := h.bel.size
    refine ⟨v, vs, rfl, (h.out.keep fun k h1 h2 => hk k h2 (by omega) (by omega)).low (by omega), ?_⟩
    refine h.bel.trans ⟨?_, ?_, ?_, by have := hb.size; omega, fun k h1 => hk k (by omega) (by omega) (by omega)⟩
    · exact hb.os.trans (y8.os.trans p4.os)
    · exact hb.tape.trans (y8.tape.trans p4.tape)
    · exact hb.output.trans (y8.output.trans p4.output)
/-- one tree more -/
theorem Oz.more {w w2 w3 w5 : World} {K K' : List Tk} {acc : List Tr} {vs : List Value} {v v5 x : Value} {R : Or} {ns : List Nx} {t : Tr} {ob : Obj} (h : Oz w w2 K acc vs v R) (hb : Below w2.heap.size w2 w3) (hx : Own w3 w2.heap.size x ns) (hn : ns.map Nx.nd = t.flat 0) (hl : ns.length ≤ 4096) (hr : w5.ownsRow (w.heap.size + 2) 47 1 v5 (acc.length + 1) (vs ++ [x])) (hg : ((w3.alloc ob).drewN 0).grownBy w5 v.ownBlock) (hgo : ofM K' [] (acc ++ [t]) = R) :
    (w5.cell? ⟨w.heap.size, 0, none⟩ = some v ∧ w5.frozen? ⟨w.heap.size, 0, none⟩ = false) ∧ Oz w (w5.setCell ⟨w.heap.size, 0, none⟩ v5) K' (acc ++ [t]) (vs ++ [x]) v5 R := by
  have h3 := h.below hb
  have hbig := h3.big
  have h5 := h3.out.more (mm := 0) hr hg (own_low2 hx h.big) hn hl
  have hb5 := below_app (mm := 0) h3.out.row hbig hg
  have hpb := (hb5.block w.heap.size (by omega)).trans h3.pb
  have hrb := (hb5.block (w.heap.size + 1) (by omega)).trans h3.rb
  obtain ⟨p1, p2, p3, p4⟩ := set1t hpb v5
  have hs5 := hb5.size
  refine ⟨⟨p2, p1⟩, hgo, h5.keep fun k h1 h2 => p4.block k h2 (by omega), p3, (p4.block (w.heap.size + 1) (by omega) (by omega)).trans hrb, ?_, Nat.le_trans (Nat.le_trans hbig hs5) p4.size⟩
  exact (h3.bel.trans (hb5.mono (by omega))).trans (p4.below (Nat.le_trans h3.bel.size hs5) (Nat.le_refl _))
theorem Cg.bad {w w3 w' : World} {K : List Tk} {acc : List Tr} {vs : List Value} {v : Value} {R : Or} {d l er : Int} (h : Oz w w3 K acc vs v R) (hc : Cg w3 w' w.heap.size (w.heap.size + 1) d l er) : (w'.cell? ⟨w.heap.size, 0, none⟩ = some (.slice none 0 0) ∧ w'.cell? ⟨w.heap.size + 1, 0, none⟩ = some (.int .i64 d) ∧ w'.cell? ⟨w.heap.size + 1, 1, none⟩ = some (.int .i64 l) ∧ w'.cell? ⟨w.heap.size + 1, 2, none⟩ = some (.int .i64 er)) ∧ Below w.heap.size w w' := by
  have hbig := h.big
  refine ⟨⟨?_, ?_, ?_, ?_⟩, h.bel.trans ⟨hc.os, hc.tape, hc.output, hc.size, fun k hk => hc.block k (by omega) (by omega) (by omega)⟩⟩
  · rw [cell_block hc.pb]; rfl
  · rw [cell_block hc.rb]; rfl
  · rw [cell_block hc.rb]; rfl
  · rw [cell_block hc.rb]; rfl
set_option maxHeartbeats 8000000 in
theorem of_any (w : World) (x : Option Addr) (n cap : Nat) (L : List Tk) (hT : Tp w x n cap L) (hl : n ≤ 2932031007317) :
    Calls Tryz.prog 11 #[.slice x n cap] w (OfE w (ofM L [] [])) := by
  have hmf : ∀ (fn : Fn) (first cap : Array Value) (w : World), (Instr.makeFunc fn first cap).run Tryz.prog w = .ok (.func fn first cap) w := fun _ _ _ _ => rfl
  have HST := hideL (Oz.start w L)
  have HTP := hideL hT
  obtain ⟨R, hR⟩ : ∃ R, ofM L [] [] = R := ⟨_, rfl⟩
  rw [hR] at HST ⊢
  have hlen := hT.len
  clear hR hT
  obtain ⟨i41, hi41, hy0, hy1, hy2⟩ := info_parts Tryz.info47
  go_enter_defers Tryz.func11, Tryz.ntmps11
  go_wp2_with fail
  go_loopw [0] (fun t wr => ∃ (K : List Tk) (y : Option Addr) (m c : Nat) (acc : List Tr) (vs : List Value) (v : Value), t = .slice y m c ∧ Tp w y m c K ∧ acc.length + m ≤ n ∧ Oz w wr K acc vs v R) (fun t _ => match t with | .slice _ m _ => m | _ => 0)
  case atStart => exact ⟨L, x, n, cap, [], [], .slice none 0 0, rfl, HTP.out, by simp, HST.out⟩
  case round =>
    obtain ⟨K, y, m, c, acc, vs, v, rfl, hT, hAm, hZ⟩ := hrel
    by_cases hm : m = 0
    · subst hm
      have hK : K = [] := List.length_eq_zero_iff.1 hT.len
      subst hK
      obtain ⟨X, hX, ⟨p1, p2⟩, ⟨y1, y2, y3⟩, ⟨y4, y5, y6⟩, hfin⟩ := hZ.done
      obtain ⟨va, vc, rfl, _⟩ := own_form hZ.out.row
      have HF := hideL hfin
      have HX := hideL hX
      clear hT hZ hfin hX
      go_wp2_with fail
      rw [HX.out]
      refine leaves_cons (f := 16) (args := #[.pointer (some ⟨w.heap.size, 0, none⟩), .pointer (some ⟨w.heap.size + 1, 0, none⟩)]) (by simp) (by simp [go_sem]) ?_
      refine (catch_idle _ _ _).mono ?_
      rintro e u' w' ⟨rfl, rfl, hb⟩
      obtain ⟨⟨c1, c2, c3, c4⟩, hE⟩ := HF.out w' hb
      exact ⟨.tuple #[.slice va acc.length vc, .agg #[.int .i64 0, .int .i64 0, .int .i64 0]], by simp [results, Tryz.results11, go_sem, c1, c2, c3, c4], hE⟩
    · have hm0 : 0 < m := by omega
      have hmi : (0 : Int) < (m : Int) := by omega
      obtain ⟨g, o, rfl, hD⟩ := hT.at_ hm0
      obtain ⟨D, hDe⟩ : ∃ D, docAt K = D := ⟨_, rfl⟩
      have hcut := cut_any w wr g o m c D K hD hZ.bel hDe
      have hDm : D ≤ m := by have := docAt_le K; have := hT.len; omega
      have hgo := hZ.go
      rw [ofM_cut, List.nil_append, hDe] at hgo
      have HGO := hideL hgo
      have HZ := hideL hZ
      have HD := hideL hD
      have HL := hideL hT.len
      clear hT hZ hD hDe hgo hm
      go_wp2_with fail
      refine hcut.mono ?_
      clear hcut
      rintro e w2 ⟨x2, m2, c2, rfl, hT2, hb⟩
      have HZ2 := hideL (HZ.out.below hb)
      have HT2 := hideL hT2
      have hm2 : m2 + (D + 1) ≤ m ∨ (m2 = 0 ∧ D = m) := by have h1 := hT2.len; have h2 := HL.out; simp at h1; omega
      clear hb hT2 HZ
      by_cases hD0 : D = 0
      · subst hD0
        have HZ3 : Hid (Oz w w2 (K.drop (0 + 1)) acc vs v R) := { HZ2.out with go := by have h1 := HGO.out; simp only [List.take_zero, endM, if_true] at h1; exact h1 }
        go_wp2_with fail
        exact ⟨⟨_, x2, m2, c2, acc, vs, v, rfl, HT2.out, by omega, HZ3.out⟩, by show m2 < m; omega⟩
      · have hD1 : 0 < D := by omega
        have hDi : (0 : Int) < (D : Int) := by omega
        obtain ⟨DD, hDD⟩ : ∃ DD, K.take D = DD := ⟨_, rfl⟩
        have hdt := (HD.out.take hDm hD1).below HZ2.out.bel
        rw [hDD] at hdt
        have hne : DD ≠ [] := fun h => by have := hdt.len; rw [h] at this; simp at this; omega
        obtain ⟨A, hA⟩ : ∃ A, acc.length = A := ⟨_, rfl⟩
        have hG := fun q => grow_any (w2.drewN q) (A : Int) g o D c DD (hdt.below (below_drewN (Below.refl _ w2) q))
        have hgo := HGO.out
        rw [hDD] at hgo
        unfold endM at hgo
        rw [if_neg hne] at hgo
        obtain ⟨va, vc, hv, _, hvc, hvm⟩ := own_form HZ2.out.out.row
        rw [hA] at hv hvc
        subst hv
        have hpb := HZ2.out.pb
        have p2 : w2.cell? ⟨w.heap.size, 0, none⟩ = some (.slice va A vc) := by rw [cell_block hpb]; rfl
        have HA := hideL hA
        have HNE := hideL hne
        clear HGO hdt hDD hpb hA hne HD
        cases hQ : docM DD with
        | bad l er =>
          rw [hQ] at hgo hG
          have HER : Hid (er ≠ 0) := docM_err HNE.out hQ
          have HR : Hid (R = .bad A l er) := by rw [← HA.out]; exact hgo.symm
          clear hQ hgo
          go_wp2_with fail
          refine wp_region_held_drew (S := fun w' => w'.cell? ⟨w.heap.size, 0, none⟩ = some (.slice va A vc)) (by kernel_rfl) (by go_keep) (fun hS1 => ?_)
          refine wpAnyH_take (i := 0) (oi := { dst := some 17, op := Op.load 24 (Operand.tmp 2), type := 24, pos := "tree.go:29", after := #[], guard := none }) (v := .slice va A vc) rfl (by kernel_rfl) (by kernel_rfl) (by kernel_rfl) (fun _ _ _ h => leaves6_put 17 (by decide) (by decide) _ _ _ _ _ _ h) (Or.inl ⟨by rfl, ?_⟩) hS1 ?_
          · intro w9 hSw; (try dsimp only at hSw); go_simp
          try simp only [Act.put, List.setIfInBounds_toArray, List.set_cons_zero, List.set_cons_succ]
          refine wpAnyH_take (i := 1) (oi := { dst := some 18, op := Op.move (Operand.tmp 4), type := 38, pos := "tree.go:29", after := #[], guard := none }) (v := .slice (some ⟨g, o, none⟩) D c) rfl (by kernel_rfl) (by kernel_rfl) (by kernel_rfl) (fun _ _ _ h => leaves6_put 18 (by decide) (by decide) _ _ _ _ _ _ h) (Or.inl ⟨by rfl, ?_⟩) hS1 ?_
          · intro w9 hSw; (try dsimp only at hSw); go_simp
          try simp only [Act.put, List.setIfInBounds_toArray, List.set_cons_zero, List.set_cons_succ]
          refine wpAnyH_take (i := 2) (oi := { dst := some 19, op := Op.load 24 (Operand.tmp 2), type := 24, pos := "tree.go:29", after := #[], guard := none }) (v := .slice va A vc) rfl (by kernel_rfl) (by kernel_rfl) (by kernel_rfl) (fun _ _ _ h => leaves6_put 19 (by decide) (by decide) _ _ _ _ _ _ h) (Or.inl ⟨by rfl, ?_⟩) hS1 ?_
          · intro w9 hSw; (try dsimp only at hSw); go_simp
          try simp only [Act.put, List.setIfInBounds_toArray, List.set_cons_zero, List.set_cons_succ]
          refine wpAnyH_take (i := 3) (oi := { dst := some 20, op := Op.call { callee := Callee.builtin Builtin.len, args := #[Operand.tmp 19], argTypes := #[24] }, type := 3, pos := "tree.go:29", after := #[{ on := 2, ground := Ground.data }], guard := none }) (v := .int .i64 A) rfl (by kernel_rfl) (by kernel_rfl) (by kernel_rfl) (fun _ _ _ h => leaves6_put 20 (by decide) (by decide) _ _ _ _ _ _ h) (Or.inl ⟨by rfl, ?_⟩) hS1 ?_
          · intro w9 hSw; (try dsimp only at hSw); go_simp
          try simp only [Act.put, List.setIfInBounds_toArray, List.set_cons_zero, List.set_cons_succ]
          refine wpAnyH_ready (rs := [4]) (by kernel_rfl) (by simp) ?_
          refine AllReadyH.cons (o := { dst := some 21, op := Op.call { callee := Callee.value (Operand.func 19), args := #[Operand.tmp 18, Operand.tmp 20], argTypes := #[38, 3] }, type := 47, pos := "tree.go:29", after := #[{ on := 1, ground := Ground.data }, { on := 3, ground := Ground.data }], guard := none }) rfl (fun K hK => ?_) AllReadyH.nil
          go_simp
          refine (hG 1).mono ?_
          rintro e w3 ⟨he, hb⟩
          unfold wrongE at he
          subst he
          have hb3 : Below w2.heap.size w2 w3 := (below_drewN (Below.refl _ w2) 1).trans hb
          have HZ3 := hideL (HZ2.out.below hb3)
          clear hb hb3
          refine leaves_cons (f := 16) (args := #[.pointer (some ⟨w.heap.size, 0, none⟩), .pointer (some ⟨w.heap.size + 1, 0, none⟩)]) (by simp) (by simp [go_sem]) ?_
          refine (catch_bad w.heap.size (w.heap.size + 1) A l er _ _ _ _ w3 HZ3.out.pb HZ3.out.rb (by omega) HER.out).mono ?_
          rintro e u' w' ⟨rfl, rfl, hc⟩
          obtain ⟨⟨c1, c2, c3, c4⟩, hbw⟩ := hc.bad HZ3.out
          have hE : OfE w R (.returned (.tuple #[.slice none 0 0, .agg #[.int .i64 A, .int .i64 l, .int .i64 er]])) w' := by
            rw [HR.out]
            exact ⟨rfl, hbw⟩
          exact ⟨.tuple #[.slice none 0 0, .agg #[.int .i64 A, .int .i64 l, .int .i64 er]], by simp [results, Tryz.results11, go_sem, c1, c2, c3, c4], hE⟩
        | ok t =>
          rw [hQ] at hgo hG
          dsimp only at hgo
          have HGO := hideL hgo
          have hlm : A + 1 ≤ maxLen := by unfold maxLen; have := HA.out; omega
          have hlb : (A + 1) * 24 ≤ 140737488355328 := by have := HA.out; omega
          have HCP : Hid (∀ W, Below w2.heap.size w2 W → W.cell? ⟨w.heap.size, 0, none⟩ = some (.slice va A vc)) := fun W hW => by
            rw [cell_block ((HZ2.out.below hW).pb)]; rfl
          clear hQ hgo
          go_wp2_with fail
          refine wp_region_noPanic ?_
          go_region_law (first
            | (refine step_append_at rfl (.tmp 17) (.tmp 22) 24 rfl (w.heap.size + 2) 47 i41 _ 1 24 Tryz.underlying24 hi41 hy0 hy1 hy2 rfl (by decide) (.slice va A vc) A vs rfl (by have h1 := (HZ2.out.below HB3.out).out.row; rw [HA.out] at h1; exact h1.alloc _) ⟨w3.heap.size, 0, none⟩ 1 1 [.slice la ns.length lc] rfl rfl (World.news_of_block (Go.heap_alloc_new w3 _)) (fun u hu => by simp at hu; subst hu; rfl) hlm hlb (Nat.le_trans (HZ2.out.below HB3.out).big (by simp)) ?_; intro v5 w5 hown5 hgrow5 hat5; have hmore := HZ2.out.more (K' := K.drop (D + 1)) (t := t) HB3.out HOW.out HND2.out HFW.out (by rw [HA.out]; exact hown5) hgrow5 HGO.out; obtain ⟨a5, c5, rfl, _⟩ := own_form hown5; obtain ⟨⟨q3, q4⟩, hz5⟩ := hmore; have HZ5 := hideL hz5; clear hown5 hgrow5 hat5 hz5)
            | (go_simp; go_at_call 19; refine (hG 1).mono ?_; rintro e w3 hGE; obtain ⟨v3, ns, rfl, hown, hnd, hfew, hb⟩ := hGE; obtain ⟨la, lc, rfl, _, hlc, hlc2⟩ := own_form hown.row; have hb3 : Below w2.heap.size w2 w3 := (below_drewN (Below.refl _ w2) 1).trans hb; have q1 := HCP.out w3 hb3; have q2 := fun X => cell_al q1 X; have HB3 := hideL hb3; have HOW : Hid (Own w3 w2.heap.size (.slice la ns.length lc) ns) := hown; have HND2 := hideL hnd; have HFW := hideL hfew; clear hown hnd hb hb3))
          all_goals
            refine NoPanic.normal ?_
            have hlen2 : (acc ++ [t]).length + m2 ≤ n := by rw [List.length_append, HA.out]; simp; have := HA.out; omega
            go_wp2_with fail
            exact ⟨⟨_, x2, m2, c2, acc ++ [t], _, _, rfl, HT2.out, hlen2, HZ5.out⟩, by show m2 < m; omega⟩
end Go.Proofs.YtmmnpnhffgpchaaGreatDoor
