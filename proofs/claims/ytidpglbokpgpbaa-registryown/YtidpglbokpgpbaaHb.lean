/- An endpoint's state in memory; the leaves of package health. -/
import Derived.Test.YtidpglbokpgpbaaTurn
import Derived.Test.YtidpglbokpgpbaaHa
import Derived.Deep.QuietTactic
import Derived.BigQuiet
import Derived.Deep.RegionHeld3
import Derived.Deep.RegionLaw
import Derived.Deep.DeepCutAuto
namespace Go.Proofs.Ytidpglbokpgpbaa
open Go.RowKit Ieee
set_option linter.unusedVariables false
set_option linter.unusedSimpArgs false
theorem hide2 {p : Prop} (h : p) : Hid p := h
/-- But for these blocks, and new ones, all is as it was. -/
structure Stp (w w' : World) (bs bs' : List Nat) : Prop where
  os : w'.os = w.os
  tape : w'.tape = w.tape
  output : w'.output = w.output
  size : w.heap.size ≤ w'.heap.size
  old : ∀ k, k < w.heap.size → k ∉ bs → w'.heap[k]? = w.heap[k]?
  new : ∀ k ∈ bs', k ∈ bs ∨ w.heap.size ≤ k
theorem Stp.trans {w w1 w2 : World} {b b1 b2 : List Nat} (h : Stp w w1 b b1) (g : Stp w1 w2 b1 b2) : Stp w w2 b b2 :=
  ⟨g.os.trans h.os, g.tape.trans h.tape, g.output.trans h.output, Nat.le_trans h.size g.size, fun k hk hn => (g.old k (Nat.lt_of_lt_of_le hk h.size) (fun h1 => (h.new k h1).elim hn (fun h2 => by omega))).trans (h.old k hk hn), fun k hk => (g.new k hk).elim (h.new k) (fun h1 => .inr (Nat.le_trans h.size h1))⟩
theorem Stp.below {w w' : World} {bs bs' : List Nat} {base : Nat} (h : Stp w w' bs bs') (hb : ∀ k ∈ bs, base ≤ k) (hs : base ≤ w.heap.size) : Below base w w' :=
  ⟨h.os, h.tape, h.output, h.size, fun k hk => h.old k (by omega) (fun h1 => by have := hb k h1; omega)⟩
theorem Stp.of_below {w w' : World} (bs : List Nat) (h : Below w.heap.size w w') : Stp w w' bs bs := ⟨h.os, h.tape, h.output, h.size, fun k hk _ => h.block k hk, fun k hk => .inl hk⟩
theorem Stp.set {w : World} {bs : List Nat} (b o : Nat) (v : Value) (hb : b ∈ bs) : Stp w (w.setCell ⟨b, o, none⟩ v) bs bs :=
  ⟨rfl, rfl, rfl, by simp [World.setCell], fun k _ hn => Below.heap_setCell _ _ _ _ (fun e => hn (e ▸ hb)), fun k hk => .inl hk⟩
theorem Stp.refl (w : World) (bs : List Nat) : Stp w w bs bs := Stp.of_below bs (Below.refl _ _)
theorem Stp.drew {w : World} (q : Nat) (bs : List Nat) : Stp w (w.drewN q) bs bs := ⟨rfl, rfl, rfl, Nat.le_refl _, fun _ _ _ => rfl, fun k hk => .inl hk⟩
theorem st_float (w : World) (a : Addr) (b : Nat) (m : Mode) : (store a (.float .f64 b) m).run Try.prog w = stored Try.prog w a (.float .f64 b) m := run_store Try.prog w a _ m rfl
theorem set_blk {w : World} {b : Nat} {cs : Array Value} {t : TypeId} {fr : Nat × Nat} (h : w.heap[b]? = some (.cells cs t fr)) (o : Nat) (v : Value) : (w.setCell ⟨b, o, none⟩ v).heap[b]? = some (.cells (cs.setIfInBounds o v) t fr) := by
  rw [block_setCell h]
/-- An endpoint's state. -/
structure St where
  up : Bool
  fall : Int
  rise : Int
  row : Int
  turns : Nat
  took : Nat
  timed : Nat
def nowI (u : Bool) : Int := if u then 0 else 1
def cel (i f r w t : Int) (k : Nat) (m : Int) : Array Value := #[.int .i64 i, .int .i64 f, .int .i64 r, .int .i64 w, .int .i64 t, .float .f64 k, .int .i64 m]
def St.cells (s : St) : Array Value := cel (nowI s.up) (-s.fall) s.rise s.row s.turns s.took s.timed
/-- a state in memory -/
def Hs (w : World) (b : Nat) (s : St) : Prop := w.heap[b]? = some (.cells s.cells 57 (0, 0))
structure Ok (s : St) (n : Nat) : Prop where
  f1 : 1 ≤ s.fall ∧ s.fall ≤ 100
  r1 : 1 ≤ s.rise ∧ s.rise ≤ 100
  u1 : s.up = true → -s.fall < s.row
  d1 : s.up = false → s.row < s.rise
  row : -(n : Int) ≤ s.row ∧ s.row ≤ n
  turns : s.turns ≤ n
  took : s.took < INF
  timed : s.timed ≤ n
def lng (row : Int) (ok : Bool) : Int := if ok then max row 0 + 1 else min row 0 - 1
def thr (s : St) : Int := if s.up then -s.fall else s.rise
def St.rowed (s : St) (ok : Bool) : St := if lng s.row ok = thr s then { s with up := !s.up, row := 0, turns := s.turns + 1 } else { s with row := lng s.row ok }
def St.tmd (s : St) (t : Nat) : St := { s with took := if s.timed = 0 then rg t else SM s.took (rg t), timed := s.timed + 1 }
def St.probe (s : St) (ok : Bool) (t : Nat) : St := if ok = true ∧ mb t then (s.rowed ok).tmd t else s.rowed ok

theorem maybe_any (x : Int) (w : World) (h0 : -9223372036854775808 ≤ x) (h1 : x ≤ 9223372036854775807) : Calls Try.prog 28 #[.int .i64 x] w fun e w' => e = .returned (.bool (decide (1 ≤ x) && decide (x ≤ 100))) ∧ w' = w := by
  go_enter Try.func28, Try.ntmps28
  by_cases a : 1 ≤ x <;> by_cases b : x ≤ 100
  all_goals
    go_wp2
    go_ret
    exact ⟨by simp [a, b], rfl⟩
theorem longer_any (x : Int) (ok : Bool) (w : World) (h0 : -900000 ≤ x) (h1 : x ≤ 900000) : Calls Try.prog 36 #[.int .i64 x, .bool ok] w fun e w' => e = .returned (.int .i64 (lng x ok)) ∧ w' = w := by
  obtain ⟨y, hy⟩ : ∃ y, lng x ok = y := ⟨_, rfl⟩
  rw [hy]
  cases ok with
  | true =>
    have hy : max x 0 + 1 = y := hy
    have HY := hide2 hy
    go_enter Try.func36, Try.ntmps36
    go_wp2_with fail
    all_goals
      go_ret
      have := HY.out
      refine ⟨?_, rfl⟩
      simp
      omega
  | false =>
    have hy : min x 0 - 1 = y := hy
    have HY := hide2 hy
    go_enter Try.func36, Try.ntmps36
    go_wp2_with fail
    all_goals
      go_ret
      have := HY.out
      refine ⟨?_, rfl⟩
      simp
      omega
theorem counts_any (b : Nat) (w : World) : Calls Try.prog 38 #[.float .f64 b] w fun e w' => e = .returned (.bool (decide (mb b))) ∧ w' = w := by
  have h := may_iff b
  cases h1 : (FloatKind.f64.format.order b 0 == some .gt || FloatKind.f64.format.order b 0 == some .eq) with
  | false =>
    have h2 : decide (mb b) = false := by rw [← h]; exact Bool.and_eq_false_imp.2 fun h3 => absurd (h1.symm.trans h3) (by decide)
    rw [h2]
    clear h h2
    go_enter Try.func38, Try.ntmps38
    go_wp2
    go_ret
    exact ⟨rfl, rfl⟩
  | true =>
    cases h2 : (FloatKind.f64.format.order b 9218868437227405311 == some .lt || FloatKind.f64.format.order b 9218868437227405311 == some .eq) with
    | false =>
      have h3 : decide (mb b) = false := by rw [← h]; exact Bool.and_eq_false_iff.2 (.inr h2)
      rw [h3]
      clear h h3
      go_enter Try.func38, Try.ntmps38
      go_wp2
      go_ret
      exact ⟨rfl, rfl⟩
    | true =>
      have h3 : decide (mb b) = true := by rw [← h]; exact Bool.and_eq_true_iff.2 ⟨h1, h2⟩
      rw [h3]
      clear h h3
      go_enter Try.func38, Try.ntmps38
      go_wp2
      go_ret
      exact ⟨rfl, rfl⟩
theorem bits_run (x : Nat) (w : World) : (callFunc 67 #[.float .f64 x]).run Try.prog w = .ok (.value (.int .u64 x)) w := by
  rw [run_callFunc_extern (e := Extern.MathFloatBits.float64bits) Try.func67 (by kernel_rfl) (by kernel_rfl) (by kernel_rfl) (by kernel_rfl)]
  rfl
theorem from_run (x : Int) (w : World) : (callFunc 66 #[.int .u64 x]).run Try.prog w = .ok (.value (.float .f64 x.toNat)) w := by
  rw [run_callFunc_extern (e := Extern.MathFloatBits.float64frombits) Try.func66 (by kernel_rfl) (by kernel_rfl) (by kernel_rfl) (by kernel_rfl)]
  rfl
theorem bits_not {x : Nat} (hx : x < 18446744073709551616) : bits BinOp.andNot IntKind.u64 (x : Int) 9223372036854775808 = (rg x : Int) := by
  have h := u64_andNot_nat x 9223372036854775808 hx (by decide)
  have e : (x &&& (18446744073709551615 - 9223372036854775808)) = rg x := by
    show (x &&& (2 ^ 63 - 1)) = rg x
    rw [Nat.and_two_pow_sub_one_eq_mod]
    rfl
  rw [e] at h
  exact h
theorem abs_any (x : Nat) (hx : x < 18446744073709551616) (w : World) : Calls Try.prog 50 #[.float .f64 x] w fun e w' => e = .returned (.float .f64 (rg x)) ∧ w' = w := by
  have hb := bits_run x w
  have hn := bits_not hx
  have hf := from_run (rg x : Int) w
  rw [Int.toNat_natCast] at hf
  go_enter Try.func50, Try.ntmps50
  go_wp2
  go_ret
  exact ⟨rfl, rfl⟩
theorem smoothed_any (s t : Nat) (hs : s < INF) (ht : t < INF) (w : World) : Calls Try.prog 51 #[.float .f64 s, .float .f64 t] w fun e w' => e = .returned (.float .f64 (SM s t)) ∧ w' = w := by
  obtain ⟨d, q, e1, e2, e3, _⟩ := sm_spec hs ht
  have r1 : (binOp .sub 32 (.float .f64 t) (.float .f64 s)).run Try.prog w = .ok (.float .f64 d) w := run_float_arith w .sub 32 .f64 _ _ _ e1
  have r2 : (binOp .quo 32 (.float .f64 d) (.float .f64 4616189618054758400)).run Try.prog w = .ok (.float .f64 q) w := run_float_arith w .quo 32 .f64 _ _ _ e2
  have r3 : (binOp .add 32 (.float .f64 s) (.float .f64 q)).run Try.prog w = .ok (.float .f64 (SM s t)) w := run_float_arith w .add 32 .f64 _ _ _ e3
  generalize SM s t = z at *
  clear e1 e2 e3
  go_enter Try.func51, Try.ntmps51
  go_wp2
  go_ret
  exact ⟨rfl, rfl⟩
theorem Hs.cells {w : World} {b : Nat} {s : St} (h : Hs w b s) : w.cell? ⟨b, 0, none⟩ = some (.int .i64 (nowI s.up)) ∧ w.cell? ⟨b, 1, none⟩ = some (.int .i64 (-s.fall)) ∧ w.cell? ⟨b, 2, none⟩ = some (.int .i64 s.rise) ∧ w.cell? ⟨b, 3, none⟩ = some (.int .i64 s.row) ∧ w.cell? ⟨b, 4, none⟩ = some (.int .i64 s.turns) ∧ w.cell? ⟨b, 5, none⟩ = some (.float .f64 s.took) ∧ w.cell? ⟨b, 6, none⟩ = some (.int .i64 s.timed) := by
  unfold Hs at h
  refine ⟨?_, ?_, ?_, ?_, ?_, ?_, ?_⟩ <;> (simp [World.cell?, h]; rfl)
theorem Hs.froz {w : World} {b : Nat} {s : St} (h : Hs w b s) (o : Nat) : w.frozen? ⟨b, o, none⟩ = false := by
  unfold Hs at h
  simp [World.frozen?, h]
theorem nil_ne (w : World) (b : Nat) : True := trivial
theorem turn_any (b : Nat) (s : St) (n : Nat) (w : World) (h : Hs w b s) (hn : s.turns ≤ 1000000) :
    Calls Try.prog 37 #[.pointer (some ⟨b, 0, none⟩)] w fun e w' => e = .returned (.tuple #[]) ∧ Hs w' b { s with up := !s.up, row := 0, turns := s.turns + 1 } ∧ Stp w w' [b] [b] := by
  obtain ⟨c0, c1, c2, c3, c4, c5, c6⟩ := h.cells
  have z := h.froz
  have HH := hide2 h
  obtain ⟨i, hi⟩ : ∃ i, nowI s.up = i := ⟨_, rfl⟩
  have hi2 : i = 0 ∨ i = 1 := by rw [← hi]; unfold nowI; split <;> simp
  have HI := hide2 hi
  obtain ⟨u, hu⟩ : ∃ u : Int, (s.turns : Int) = u := ⟨_, rfl⟩
  have HU := hide2 hu
  have hu2 : 0 ≤ u ∧ u ≤ 1000000 := by omega
  rw [hi] at c0
  rw [hu] at c4
  clear hi h hu hn c1 c2 c5 c6
  go_enter Try.func37, Try.ntmps37
  go_wp2_with fail
  go_end0
  refine ⟨rfl, ?_, ((Stp.set b 0 _ (by simp)).trans (Stp.set b 3 _ (by simp))).trans (Stp.set b 4 _ (by simp))⟩
  unfold Hs
  rw [set_blk (set_blk (set_blk HH.out 0 _) 3 _) 4 _]
  have e1 : (1 : Int) - i = nowI (!s.up) := by rw [← HI.out]; unfold nowI; cases s.up <;> rfl
  have e2 : u + 1 = ((s.turns + 1 : Nat) : Int) := by rw [← HU.out]; omega
  rw [e1, e2]
  rfl
theorem time_any (b : Nat) (s : St) (t : Nat) (w : World) (h : Hs w b s) (hn : s.timed ≤ 1000000) (ht : t < 18446744073709551616) (hm : mb t) (hk : s.took < INF) :
    Calls Try.prog 39 #[.pointer (some ⟨b, 0, none⟩), .float .f64 t] w fun e w' => e = .returned (.tuple #[]) ∧ Hs w' b (s.tmd t) ∧ Stp w w' [b] [b] := by
  obtain ⟨c0, c1, c2, c3, c4, c5, c6⟩ := h.cells
  have z := h.froz
  have HH := hide2 h
  have ha := abs_any t ht w
  have hsm := smoothed_any s.took (rg t) hk hm.1 w
  obtain ⟨r, hr⟩ : ∃ r, rg t = r := ⟨_, rfl⟩
  obtain ⟨k, hkk⟩ : ∃ k, s.took = k := ⟨_, rfl⟩
  obtain ⟨y, hy⟩ : ∃ y, SM k r = y := ⟨_, rfl⟩
  have HR := hide2 (And.intro hr (And.intro hkk hy))
  rw [hr] at ha hsm
  rw [hkk] at hsm c5
  rw [hy] at hsm
  obtain ⟨u, hu⟩ : ∃ u : Int, (s.timed : Int) = u := ⟨_, rfl⟩
  have HU := hide2 hu
  have hu2 : 0 ≤ u ∧ u ≤ 1000000 := by omega
  rw [hu] at c6
  have st := st_float
  by_cases h0 : u = 0
  · have HZ := hide2 h0
    have g0 : (u == 0) = true := by simpa using h0
    clear hu h hn c0 c1 c2 c3 c4 hr hkk hy hk hm ht h0
    go_enter Try.func39, Try.ntmps39
    go_wp2_with (first
      | (go_at_call 50; refine ha.mono ?_; rintro e w' ⟨rfl, rfl⟩)
      | (go_at_call 51; refine hsm.mono ?_; rintro e w' ⟨rfl, rfl⟩))
    go_end0
    refine ⟨rfl, ?_, (Stp.set b 5 _ (by simp)).trans (Stp.set b 6 _ (by simp))⟩
    unfold Hs
    rw [set_blk (set_blk HH.out 5 _) 6 _]
    have e0 : s.timed = 0 := by have := HU.out; have := HZ.out; omega
    have e2 : u + 1 = ((s.timed + 1 : Nat) : Int) := by rw [← HU.out]; omega
    obtain ⟨a1, a2, a3⟩ := HR.out
    unfold St.tmd
    rw [if_pos e0, a1, e2]
    rfl
  · have HZ := hide2 h0
    have g0 : (u == 0) = false := by simpa using h0
    clear hu h hn c0 c1 c2 c3 c4 hr hkk hy hk hm ht h0
    go_enter Try.func39, Try.ntmps39
    go_wp2_with (first
      | (go_at_call 50; refine ha.mono ?_; rintro e w' ⟨rfl, rfl⟩)
      | (go_at_call 51; refine hsm.mono ?_; rintro e w' ⟨rfl, rfl⟩))
    go_end0
    refine ⟨rfl, ?_, (Stp.set b 5 _ (by simp)).trans (Stp.set b 6 _ (by simp))⟩
    unfold Hs
    rw [set_blk (set_blk HH.out 5 _) 6 _]
    have e0 : ¬ s.timed = 0 := by have := HU.out; have := HZ.out; omega
    have e2 : u + 1 = ((s.timed + 1 : Nat) : Int) := by rw [← HU.out]; omega
    obtain ⟨a1, a2, a3⟩ := HR.out
    unfold St.tmd
    rw [if_neg e0, a1, a2, a3, e2]
    rfl
theorem Hs.stp {w w' : World} {b : Nat} {s : St} {bs bs' : List Nat} (h : Hs w b s) (g : Stp w w' bs bs') (hb : b ∉ bs) : Hs w' b s := (g.old b (lt_of_block h) hb).trans h
theorem Hs.drew {w : World} {b : Nat} {s : St} (h : Hs w b s) (q : Nat) : Hs (w.drewN q) b s := h
theorem lng_range {x : Int} {n : Nat} (ok : Bool) (h : -(n : Int) ≤ x ∧ x ≤ n) : -((n + 1 : Nat) : Int) ≤ lng x ok ∧ lng x ok ≤ ((n + 1 : Nat) : Int) := by
  unfold lng; cases ok <;> simp <;> omega
theorem Ok.rowed {s : St} {n : Nat} (h : Ok s n) (ok : Bool) : Ok (s.rowed ok) (n + 1) := by
  have hr := lng_range ok h.row
  have h1 := h.f1; have h2 := h.r1; have h3 := h.u1; have h4 := h.d1; have h5 := h.turns; have h6 := h.timed
  unfold St.rowed
  split
  · refine ⟨h1, h2, fun hu => ?_, fun hu => ?_, ?_, ?_, h.took, ?_⟩ <;> (dsimp only at *; omega)
  · rename_i hne
    refine ⟨h1, h2, fun hu => ?_, fun hu => ?_, hr, ?_, h.took, ?_⟩
    · have hu : s.up = true := hu
      have := h3 hu
      unfold thr lng at hne
      rw [hu] at hne
      show -s.fall < lng s.row ok
      unfold lng
      cases ok <;> simp at hne ⊢ <;> omega
    · have hu : s.up = false := hu
      have := h4 hu
      unfold thr lng at hne
      rw [hu] at hne
      show lng s.row ok < s.rise
      unfold lng
      cases ok <;> simp at hne ⊢ <;> omega
    · show s.turns ≤ n + 1; omega
    · show s.timed ≤ n + 1; omega
theorem tmd_took {s : St} {t : Nat} (hs : s.took < INF) (hm : mb t) : (s.tmd t).took < INF := by
  unfold St.tmd
  dsimp only
  split
  · exact hm.1
  · obtain ⟨_, _, _, _, _, h, _⟩ := sm_spec hs hm.1; exact h
theorem Ok.probe {s : St} {n : Nat} (h : Ok s n) (ok : Bool) (t : Nat) : Ok (s.probe ok t) (n + 1) := by
  have h1 := h.rowed ok
  unfold St.probe
  split
  · rename_i hc
    have e : (s.rowed ok).timed = s.timed := by unfold St.rowed; split <;> rfl
    have := h.timed
    exact ⟨h1.f1, h1.r1, h1.u1, h1.d1, h1.row, h1.turns, tmd_took h1.took hc.2, by show (s.rowed ok).timed + 1 ≤ n + 1; omega⟩
  · exact h1
theorem probe_nil (ok : Bool) (t : Nat) (w : World) : Calls Try.prog 24 #[.pointer none, .bool ok, .float .f64 t] w fun e w' => e = .returned (.int .i64 1) ∧ w' = w := by
  go_enter Try.func24, Try.ntmps24
  go_wp2_with fail
  go_ret
  exact ⟨rfl, rfl⟩
theorem get_any (f : FuncId) (b : Nat) (s : St) (w : World) (h : Hs w b s) : True := trivial
end Go.Proofs.Ytidpglbokpgpbaa
