import Derived.Test.YtkmohpdcchpndaaBndD
import Derived.Test.YtkmohpdcchpndaaBndE
import Derived.Deep.QuietTactic
import Derived.BigQuiet
/-
  Each call of a disk, whatever it is handed: the disk says something behind it.
-/
namespace Go.Proofs.Ytkmohpdcchpndaa
open Go.RowKit Go.Maps
set_option linter.unusedVariables false
set_option linter.unusedSimpArgs false
set_option maxRecDepth 100000
/-- A call that answers a number: the disk says something behind it. -/
abbrev Opx (f : Nat) (args : Array Value) (w : World) (base d : Nat) (own : Nat → Prop) (N : Nat) : Prop := Ans f args w fun v w' => ∃ s' own', Rep w' base d s' N own' ∧ Fr w w' own own'
/-- A call that answers nothing. -/
abbrev Opu (f : Nat) (args : Array Value) (w : World) (base d : Nat) (own : Nat → Prop) (N : Nat) : Prop := Calls Try.prog f args w fun e w' => e = .returned (.tuple #[]) ∧ ∃ s' own', Rep w' base d s' N own' ∧ Fr w w' own own'
theorem opx_of {f : Nat} {args : Array Value} {w : World} {base d : Nat} {own : Nat → Prop} {r : Int × DS} {N N' : Nat} (h : Op f args w base d own r N) (hN : N ≤ N') : Opx f args w base d own N' := by
  refine Calls.mono h ?_
  rintro e w' ⟨v, rfl, _, own', hr, hf⟩
  exact ⟨v, rfl, _, own', hr.mono hN, hf⟩
theorem opx_bad {f : Nat} {args : Array Value} {w : World} {base d : Nat} {own : Nat → Prop} {s : DS} {N N' : Nat} {E : Int} (hR : Rep w base d s N own) (h : Ans f args w fun v w' => v = E ∧ Below w.heap.size w w') (hN : N ≤ N') : Opx f args w base d own N' := by
  refine Calls.mono h ?_
  rintro e w' ⟨v, rfl, _, hb⟩
  exact ⟨v, rfl, s, own, (hR.below hb).mono hN, Fr.below hb own⟩
theorem find_not {w : World} {base d : Nat} {s : DS} {N : Nat} {own : Nat → Prop} (h : Rep w base d s N own) (nm : ByteArray) (hs : nm.size ≤ maxLen) (hbad : s.down = true ∨ (s.down = false ∧ ¬ nmOk nm) ∨ (s.down = false ∧ nmOk nm ∧ s.dn nm = none)) :
    ∃ E : Int, (E == 0) = false ∧ Calls Try.prog 30 #[.pointer (some ⟨d, 0, none⟩), .string nm] w fun e w' => e = .returned (.tuple #[.pointer none, .int .i64 E]) ∧ Below w.heap.size w w' := by
  obtain ⟨x, am, fo, nf, es, lab, hx, rfl⟩ := h
  have hb := hx.dk.dir.blk
  rw [hx.c1] at hb
  rcases hbad with h1 | ⟨h1, h2⟩ | ⟨h1, h2, h3⟩
  · rw [h1] at hb
    exact ⟨32, rfl, find_down d nm w (by rw [cell_block hb]; rfl)⟩
  · rw [h1] at hb
    exact ⟨2, rfl, find_arg d nm w (by rw [cell_block hb]; rfl) h2 hs⟩
  · exact ⟨30, rfl, find_none base d x nm w hx.dk.dir (by rw [hx.c1, h1]) h2 hs (hx.dn.not hx.dk.dir.now hs h3)⟩
/-- A name is there, or it is told why not. -/
theorem there_or (s : DS) (nm : ByteArray) : (s.down = true ∨ (s.down = false ∧ ¬ nmOk nm) ∨ (s.down = false ∧ nmOk nm ∧ s.dn nm = none)) ∨ (s.down = false ∧ nmOk nm ∧ ∃ n, s.dn nm = some n) := by
  cases hd : s.down with
  | true => exact .inl (.inl rfl)
  | false =>
    by_cases hn : nmOk nm
    · cases hq : s.dn nm with
      | none => exact .inl (.inr (.inr ⟨rfl, hn, rfl⟩))
      | some n => exact .inr ⟨rfl, hn, n, rfl⟩
    · exact .inl (.inr (.inl ⟨rfl, hn⟩))
theorem cut_tot {w : World} {base d : Nat} {s : DS} {N : Nat} {own : Nat → Prop} (h : Rep w base d s N own) (hN : N + 1 < 1000000) (nm : ByteArray) (hs : nm.size ≤ maxLen) (k : Int) : Opx 22 #[.pointer (some ⟨d, 0, none⟩), .string nm, .int .i64 k] w base d own (N + 1) := by
  rcases there_or s nm with hb | ⟨h1, h2, n, h3⟩
  · obtain ⟨E, hE, hc⟩ := find_not h nm hs hb
    exact opx_bad h (cut_bad _ nm k E w hc hE) (by omega)
  · obtain ⟨fb, f, hf, hr, hc⟩ := find_rep w base d s N own h (by omega) h1 nm h2 n h3
    by_cases hk : k < 0 ∨ (f.now.length : Int) < k
    · exact opx_bad h (cut_arg _ nm k base fb f w hc hf hk) (by omega)
    · obtain ⟨q, rfl⟩ : ∃ q : Nat, k = q := ⟨k.toNat, by omega⟩
      exact opx_of (cut_rep w base d s N own h hN h1 nm h2 n h3 q (by rw [← hr.2.2]; omega)) (Nat.le_refl _)
theorem sync_tot {w : World} {base d : Nat} {s : DS} {N : Nat} {own : Nat → Prop} (h : Rep w base d s N own) (hN : N + 1 < 1000000) (nm : ByteArray) (hs : nm.size ≤ maxLen) : Opx 21 #[.pointer (some ⟨d, 0, none⟩), .string nm] w base d own (N + 1) := by
  rcases there_or s nm with hb | ⟨h1, h2, n, h3⟩
  · obtain ⟨E, hE, hc⟩ := find_not h nm hs hb
    exact opx_bad h (sync_bad _ nm E w hc hE) (by omega)
  · exact opx_of (sync_rep w base d s N own h (by omega) h1 nm h2 n h3) (by omega)
theorem write_tot {w : World} {base d : Nat} {s : DS} {N : Nat} {own : Nat → Prop} (h : Rep w base d s N own) (hN : N + 1 < 1000000) (nm : ByteArray) (hs : nm.size ≤ maxLen) (at_ : Int) (ai : Option Addr) (m cp : Nat) (p : List Int) (hl : p.length = m) (hb : ai = none → cp = 0) (hp : Has w ai p) (ho : Octets p) (hm : m ≤ 140737488355328) : Opx 19 #[.pointer (some ⟨d, 0, none⟩), .string nm, .int .i64 at_, .slice ai m cp] w base d own (N + 1) := by
  rcases there_or s nm with hbad | ⟨h1, h2, n, h3⟩
  · obtain ⟨E, hE, hc⟩ := find_not h nm hs hbad
    exact opx_bad h (write_bad _ nm at_ _ E w hc hE) (by omega)
  · obtain ⟨fb, f, hf, hr, hc⟩ := find_rep w base d s N own h (by omega) h1 nm h2 n h3
    have hsm : (s.fl n).now.length ≤ 1048576 := by
      obtain ⟨x, am, fo, nf, es, lab, hx, rfl⟩ := h
      exact (hx.fok n).now_small
    by_cases hk : at_ < 0 ∨ (f.now.length : Int) < at_
    · exact opx_bad h (write_arg _ nm at_ _ base fb f w hc hf hk) (by omega)
    · obtain ⟨q, rfl⟩ : ∃ q : Nat, at_ = q := ⟨at_.toNat, by omega⟩
      rw [hr.2.2] at hk
      have hq : q ≤ (s.fl n).now.length := by omega
      by_cases hlong : 1048576 < q + m
      · exact opx_bad h (write_long _ nm q ai m cp base fb f w hc hf (by rw [hr.2.2]; exact hq) hm (by rw [hr.2.2]; exact hsm) hlong) (by omega)
      · by_cases hroom : (s.fl n).now.length < q + m → usedS s + (q + m - (s.fl n).now.length) ≤ s.room
        · exact opx_of (write_rep w base d s N own h hN h1 nm h2 n h3 q hq ai m cp p hl hb hp ho (by omega) hroom) (Nat.le_refl _)
        · have h5 : (s.fl n).now.length < q + m := Classical.byContradiction fun hn => hroom (fun h => absurd h hn)
          have h6 : s.room < usedS s + (q + m - (s.fl n).now.length) := by
            refine Nat.lt_of_not_le (fun hn => hroom (fun _ => hn))
          exact opx_bad h (write_full_rep w base d s N own h (by omega) h1 nm h2 n h3 q hq ai m cp p hl hb hp ho (by omega) h5 h6) (by omega)
theorem create_tot {w : World} {base d : Nat} {s : DS} {N : Nat} {own : Nat → Prop} (h : Rep w base d s N own) (hN : N + 1 < 1000000) (nm : ByteArray) (hs : nm.size ≤ maxLen) : Opx 18 #[.pointer (some ⟨d, 0, none⟩), .string nm] w base d own (N + 1) := by
  have h0 := h
  obtain ⟨x, am, fo, nf, es, lab, hx, rfl⟩ := h
  have hb4 := hx.b4
  have hsz : x.now.elim 0 Go.Maps.size ≤ N := Nat.le_trans (dm_size hx.dk.dir.now) hb4
  cases hd : s.down with
  | true => exact opx_bad h0 (create_down w base d x hx.dk.dir (by rw [hx.c1, hd]) nm) (by omega)
  | false =>
    by_cases hn : nmOk nm
    · cases hq : s.dn nm with
      | some n => exact opx_bad h0 (create_no w base d x hx.dk.dir (by rw [hx.c1, hd]) nm hn hs 35 (.inl ⟨rfl, _, hx.dn.has hq⟩) (by omega)) (by omega)
      | none =>
        by_cases hfew : x.now.elim 0 Go.Maps.size < 64
        · refine opx_of (create_rep w base d s N _ h0 hN hd nm hn hq ⟨namesL x.now, fun a k ha => (hx.names.2.2 a).2 (by rw [ha]; simp), by rw [names_length hx.dk.dir.now]; exact hfew⟩) (Nat.le_refl _)
        · exact opx_bad h0 (create_no w base d x hx.dk.dir (by rw [hx.c1, hd]) nm hn hs 31 (.inr ⟨rfl, hx.dn.not hx.dk.dir.now hs hq, by omega⟩) (by omega)) (by omega)
    · exact opx_bad h0 (create_arg w base d x hx.dk.dir (by rw [hx.c1, hd]) nm hn hs) (by omega)
noncomputable def remS (s : DS) (nm : ByteArray) : DS := { s with dc := s.dc ++ [.rm nm], dn := dirDo s.dn (.rm nm) }
theorem remove_rep (w : World) (base d : Nat) (s : DS) (N : Nat) (own : Nat → Prop) (h : Rep w base d s N own) (hN : N + 1 < 1000000) (hup : s.down = false) (nm : ByteArray) (hnm : nmOk nm) (n : Nat) (hn : s.dn nm = some n) :
    Op 55 #[.pointer (some ⟨d, 0, none⟩), .string nm] w base d own (finS (remS s nm)) (N + 1) := by
  obtain ⟨x, am, fo, nf, es, lab, hx, rfl⟩ := h
  obtain ⟨e, he, rfl⟩ := hx.ent hn
  have hb1 := hx.b1; have hb2 := hx.b2; have hb3 := hx.b3; have hb4 := hx.b4
  have hh := hx.dn.has hn
  have hok : Dc.ok (.rm nm) x.now := by
    obtain ⟨D, e1, _⟩ := hh
    show x.now ≠ none
    rw [e1]; simp
  refine remove_ok w base d x am fo nf s.made es lab hx.dk e he (by rw [hx.c1, hup]) nm hnm (name_short hnm) hh (by omega) (by omega) (by omega) hx.b7 _ ?_
  intro w1 x' lab' dv ro dk1 kt hro e1 e2 e3 e4 e5 e6 e7
  have hx1 : RepX w1 base d (remS s nm) (N + 1) x' am fo nf es lab' := by
    refine ⟨dk1, e6.trans hx.c0, e7.trans hx.c1, hx.arm, by rw [e1]; exact hx.dl, by rw [e5, List.map_append, hx.dc]; rfl, by rw [e3]; exact has_do_iff (c := .rm nm) hx.dk.dir.now.isMap hok hx.dn, hx.fl, Nat.le_succ_of_le hx.b1, by omega, by rw [e2, e5]; simp; omega, by omega, fun y hy => Nat.le_succ_of_le (hx.b5 y hy), hx.fok, hx.b6, Nat.le_trans hx.b7 kt.size⟩
  refine ans_fr (fr_of kt fun k hk => ?_) (done_rep w1 base d _ (N + 1) x' am fo nf es lab' hx1 hN hup)
  rcases hk with ⟨c, hc, hk⟩ | hk | ha
  · rw [e5, List.mem_append, List.mem_singleton] at hc
    rcases hc with hc | rfl
    · exact .inl (.inr (.inl ⟨c, hc, hk⟩))
    · exact .inr (hro k hk)
  · exact .inl (.inr (.inr (.inl hk)))
  · exact .inl (.inr (.inr (.inr ha)))
theorem remove_tot {w : World} {base d : Nat} {s : DS} {N : Nat} {own : Nat → Prop} (h : Rep w base d s N own) (hN : N + 1 < 1000000) (nm : ByteArray) (hs : nm.size ≤ maxLen) : Opx 55 #[.pointer (some ⟨d, 0, none⟩), .string nm] w base d own (N + 1) := by
  rcases there_or s nm with hb | ⟨h1, h2, n, h3⟩
  · obtain ⟨E, hE, hc⟩ := find_not h nm hs hb
    exact opx_bad h (remove_bad _ nm E w hc hE) (by omega)
  · exact opx_of (remove_rep w base d s N own h hN h1 nm h2 n h3) (Nat.le_refl _)
theorem down_refuses {w : World} {base d : Nat} {s : DS} {N : Nat} {own : Nat → Prop} (h : Rep w base d s N own) (hd : s.down = true) (v : Value) : Calls Try.prog 29 #[.pointer (some ⟨d, 0, none⟩), v] w fun e w' => e = .returned (.int .i64 32) ∧ w' = w := by
  obtain ⟨x, am, fo, nf, es, lab, hx, rfl⟩ := h
  have hb := hx.dk.dir.blk
  rw [hx.c1, hd] at hb
  exact refuses_down d v w (by rw [cell_block hb]; rfl)
theorem syncdir_tot {w : World} {base d : Nat} {s : DS} {N : Nat} {own : Nat → Prop} (h : Rep w base d s N own) (hN : N + 1 < 1000000) : Opx 10 #[.pointer (some ⟨d, 0, none⟩)] w base d own (N + 1) := by
  cases hd : s.down with
  | true =>
    refine opx_bad (E := 32) h (Calls.mono (syncdir_bad (some ⟨d, 0, none⟩) 32 w (down_refuses h hd _) rfl) ?_) (by omega)
    rintro e w' ⟨v, rfl, hv, rfl⟩
    exact ⟨v, rfl, hv, Below.refl _ _⟩
  | false => exact opx_of (syncdir_rep w base d s N own h (by omega) hd) (by omega)
theorem isDown {w : World} {base d : Nat} {s : DS} {N : Nat} {own : Nat → Prop} (h : Rep w base d s N own) : w.cell? ⟨d, 1, none⟩ = some (.bool s.down) := by
  obtain ⟨x, am, fo, nf, es, lab, hx, rfl⟩ := h
  have hb := hx.dk.dir.blk
  rw [hx.c1] at hb
  rw [cell_block hb]; rfl
theorem crash_down (w : World) (d : Nat) (v : Value) (h : w.cell? ⟨d, 1, none⟩ = some (.bool true)) : Calls Try.prog 13 #[.pointer (some ⟨d, 0, none⟩), v] w fun e w' => e = .returned (.tuple #[]) ∧ w' = w := by
  go_enter Try.func13, Try.ntmps13
  go_wp2
  refine bodyPost_ret (results_none rfl _ _ _) rfl ?_
  exact ⟨rfl, rfl⟩
theorem arm_down (w : World) (d : Nat) (k : Int) (v : Value) (h : w.cell? ⟨d, 1, none⟩ = some (.bool true)) : Calls Try.prog 25 #[.pointer (some ⟨d, 0, none⟩), .int .i64 k, v] w fun e w' => e = .returned (.tuple #[]) ∧ w' = w := by
  go_enter Try.func25, Try.ntmps25
  go_wp2
  refine bodyPost_ret (results_none rfl _ _ _) rfl ?_
  exact ⟨rfl, rfl⟩
theorem crash_tot {w : World} {base d : Nat} {s : DS} {N : Nat} {own : Nat → Prop} (h : Rep w base d s N own) (hN : N + 1 < 1000000) (a : Option Addr) (n cap : Nat) (cs : List Int) (hc : Chs w own a n cap cs) : Opu 13 #[.pointer (some ⟨d, 0, none⟩), .slice a n cap] w base d own (N + 1) := by
  cases hd : s.down with
  | true =>
    refine Calls.mono (crash_down w d _ (hd ▸ isDown h)) ?_
    rintro e w' ⟨rfl, rfl⟩
    exact ⟨rfl, s, own, h.mono (by omega), Fr.refl _ _⟩
  | false =>
    refine Calls.mono (crash_rep w base d s N own h (by omega) hd a n cap cs hc) ?_
    rintro e w' ⟨rfl, own', hr, hf⟩
    exact ⟨rfl, _, own', hr.mono (by omega), hf⟩
theorem arm_tot {w : World} {base d : Nat} {s : DS} {N : Nat} {own : Nat → Prop} (h : Rep w base d s N own) (hN : N + 1 < 1000000) (k : Int) (hk : k ≤ 9223372036854775807) (a : Option Addr) (n cap : Nat) (cs : List Int) (hc : Chs w own a n cap cs) : Opu 25 #[.pointer (some ⟨d, 0, none⟩), .int .i64 k, .slice a n cap] w base d own (N + 1) := by
  cases hd : s.down with
  | true =>
    refine Calls.mono (arm_down w d k _ (hd ▸ isDown h)) ?_
    rintro e w' ⟨rfl, rfl⟩
    exact ⟨rfl, s, own, h.mono (by omega), Fr.refl _ _⟩
  | false =>
    refine Calls.mono (arm_rep w base d s N own h hd k hk a n cap cs hc) ?_
    rintro e w' ⟨rfl, own', hr, hf⟩
    exact ⟨rfl, _, own', hr.mono (by omega), hf⟩
theorem up_tot {w : World} {base d : Nat} {s : DS} {N : Nat} {own : Nat → Prop} (h : Rep w base d s N own) : Opu 16 #[.pointer (some ⟨d, 0, none⟩)] w base d own (N + 1) := by
  refine Calls.mono (up_rep w base d s N own h) ?_
  rintro e w' ⟨rfl, own', hr, hf⟩
  exact ⟨rfl, _, own', hr.mono (by omega), hf⟩
/-- Two names, one of which may not be. -/
theorem refuses_arg2 (d g : Nat) (s1 s2 : ByteArray) (w : World) (h : w.cell? ⟨d, 1, none⟩ = some (.bool false)) (hc1 : w.cell? ⟨g, 0, none⟩ = some (.string s1)) (hc2 : w.cell? ⟨g, 1, none⟩ = some (.string s2)) (hb : ¬ nmOk s1 ∨ ¬ nmOk s2) (hs1 : s1.size ≤ maxLen) (hs2 : s2.size ≤ maxLen) : Calls Try.prog 29 #[.pointer (some ⟨d, 0, none⟩), .slice (some ⟨g, 0, none⟩) 2 2] w fun e w' => e = .returned (.int .i64 2) ∧ w' = w := by
  have HS1 := hide2 hs1
  have HS2 := hide2 hs2
  clear hs1 hs2
  go_enter Try.func29, Try.ntmps29
  go_wp2_with fail
  go_loopw [15] (fun t W => ∃ i : Nat, t = .int .i64 i ∧ i ≤ 1 ∧ (i = 1 → nmOk s1) ∧ W = w) (fun t _ => 2 - (intOf t).toNat)
  case atStart => exact ⟨0, rfl, by omega, fun h => by omega, rfl⟩
  case round =>
    obtain ⟨i, rfl, hi, hn1, hwr⟩ := hrel
    have hwr := hwr.symm
    subst hwr
    rcases Nat.lt_or_ge i 1 with hi0 | hi0
    · obtain rfl : i = 0 := by omega
      by_cases hb1 : nmOk s1
      · go_wp2_with (first | (go_at_call 57; refine (mayBe_yes s1 w hb1).mono ?_; rintro e w1 ⟨rfl, hw⟩; have hw := hw.symm; subst hw))
        go_roundw
        case rel => exact ⟨1, by go_num, by omega, fun _ => hb1, trivial⟩
        case measure => simp [intOf]
      · go_wp2_with (first | (go_at_call 57; refine (mayBe_no s1 w hb1 HS1.out).mono ?_; rintro e w1 ⟨rfl, hw⟩; have hw := hw.symm; subst hw))
        go_ret
        exact ⟨rfl, rfl⟩
    · obtain rfl : i = 1 := by omega
      have hb2 : ¬ nmOk s2 := by
        rcases hb with h | h
        · exact absurd (hn1 rfl) h
        · exact h
      go_wp2_with (first | (go_at_call 57; refine (mayBe_no s2 w hb2 HS2.out).mono ?_; rintro e w1 ⟨rfl, hw⟩; have hw := hw.symm; subst hw))
      go_ret
      exact ⟨rfl, rfl⟩
theorem rename_refused (p : Option Addr) (fr to_ : ByteArray) (E : Int) (w : World) (h : Calls Try.prog 29 #[.pointer p, .slice (some ⟨w.heap.size, 0, none⟩) 2 2] (w.alloc (.cells #[.string fr, .string to_] 9 (0, 0))) fun e w' => e = .returned (.int .i64 E) ∧ w' = w.alloc (.cells #[.string fr, .string to_] 9 (0, 0))) (hE : (E == 0) = false) : Ans 26 #[.pointer p, .string fr, .string to_] w fun v w' => v = E ∧ Below w.heap.size w w' := by
  have HB : Hid (Below w.heap.size w (w.alloc (.cells #[.string fr, .string to_] 9 (0, 0)))) := (Below.refl _ w).alloc (Nat.le_refl _) _
  have HC := hide2 h
  have hE2 : (E != 0) = true := by rw [bne, hE]; rfl
  clear h
  go_enter Try.func26, Try.ntmps26
  go_wp2_with (first | (go_at_call 29; refine HC.out.mono ?_; rintro e w1 ⟨rfl, hw⟩; have hw := hw.symm; subst hw))
  go_ret
  exact ⟨E, rfl, rfl, HB.out⟩
theorem rename_none (w : World) (base d : Nat) (x : Dr) (h : Dir w base d x) (hup : x.c1 = .bool false) (fr to_ : ByteArray) (hfr : nmOk fr) (hto : nmOk to_) (hs : fr.size ≤ maxLen) (hno : Not1 x.now fr) : Ans 26 #[.pointer (some ⟨d, 0, none⟩), .string fr, .string to_] w fun v w' => v = 30 ∧ Below w.heap.size w w' := by
  have hB : Below w.heap.size w (w.alloc (.cells #[.string fr, .string to_] 9 (0, 0))) := (Below.refl _ _).alloc (Nat.le_refl _) _
  have hb := (hB.block d (lt_of_block h.blk)).trans h.blk
  rw [hup] at hb
  obtain ⟨mo, hnv⟩ := h.now.shape
  rw [hnv] at hb
  have h1 : (w.alloc (.cells #[.string fr, .string to_] 9 (0, 0))).cell? ⟨d, 1, none⟩ = some (.bool false) := by rw [cell_block hb]; rfl
  have h5 : (w.alloc (.cells #[.string fr, .string to_] 9 (0, 0))).cell? ⟨d, 5, none⟩ = some (.map mo) := by rw [cell_block hb]; rfl
  have hn := h.now
  rw [hnv] at hn
  have hl : (Instr.lookup 62 (.map mo) (.string fr) true).run Try.prog (w.alloc (.cells #[.string fr, .string to_] 9 (0, 0))) = .ok (.tuple #[.int .i64 0, .bool false]) (w.alloc (.cells #[.string fr, .string to_] 9 (0, 0))) := by
    rcases dm_look (hn.keep (w' := w.alloc (.cells #[.string fr, .string to_] 9 (0, 0))) fun k hk => hB.block k (hn.low hk).2) fr hs with ⟨num, _, hh, _⟩ | ⟨h1, _⟩
    · exact (has_not hh hno).elim
    · exact h1
  have HC : Hid (Calls Try.prog 29 #[.pointer (some ⟨d, 0, none⟩), .slice (some ⟨w.heap.size, 0, none⟩) 2 2] (w.alloc (.cells #[.string fr, .string to_] 9 (0, 0))) fun e w' => e = .returned (.int .i64 0) ∧ w' = w.alloc (.cells #[.string fr, .string to_] 9 (0, 0))) := refuses_ok d _ 2 2 [fr, to_] _ h1 rfl (by omega) (two_names w fr to_) (fun s hs => by
    simp at hs
    rcases hs with rfl | rfl
    · exact hfr
    · exact hto)
  have HB := hide2 hB
  clear h hn hno hB hb
  go_enter Try.func26, Try.ntmps26
  go_wp2_with (first | (go_at_call 29; refine HC.out.mono ?_; rintro e w1 ⟨rfl, hw⟩; subst hw))
  go_ret
  exact ⟨30, rfl, rfl, HB.out⟩
theorem rename_tot {w : World} {base d : Nat} {s : DS} {N : Nat} {own : Nat → Prop} (h : Rep w base d s N own) (hN : N + 1 < 1000000) (fr to_ : ByteArray) (hs : fr.size ≤ maxLen) (hs2 : to_.size ≤ maxLen) : Opx 26 #[.pointer (some ⟨d, 0, none⟩), .string fr, .string to_] w base d own (N + 1) := by
  have h0 := h
  have hB : Below w.heap.size w (w.alloc (.cells #[.string fr, .string to_] 9 (0, 0))) := (Below.refl _ _).alloc (Nat.le_refl _) _
  have hdn := isDown (h.below hB)
  cases hd : s.down with
  | true => exact opx_bad h0 (rename_refused _ fr to_ 32 w (refuses_down d _ _ (hd ▸ hdn)) rfl) (by omega)
  | false =>
    by_cases hok : nmOk fr ∧ nmOk to_
    · cases hq : s.dn fr with
      | some n => exact opx_of (rename_rep w base d s N own h0 hN hd fr to_ hok.1 hok.2 n hq) (Nat.le_refl _)
      | none =>
        obtain ⟨x, am, fo, nf, es, lab, hx, rfl⟩ := h
        exact opx_bad h0 (rename_none w base d x hx.dk.dir (by rw [hx.c1, hd]) fr to_ hok.1 hok.2 hs (hx.dn.not hx.dk.dir.now hs hq)) (by omega)
    · refine opx_bad h0 (rename_refused _ fr to_ 2 w (refuses_arg2 d w.heap.size fr to_ _ (hd ▸ hdn) (by rw [cell_block (Go.heap_alloc_new w _)]; rfl) (by rw [cell_block (Go.heap_alloc_new w _)]; rfl) ?_ hs hs2) rfl) (by omega)
      by_cases h1 : nmOk fr
      · exact .inr fun h2 => hok ⟨h1, h2⟩
      · exact .inl h1
/-- What a disk tells of its directory. -/
theorem loosed_up (w : World) (base d : Nat) (s : DS) (N : Nat) (own : Nat → Prop) (h : Rep w base d s N own) (hup : s.down = false) : Ans 9 #[.pointer (some ⟨d, 0, none⟩), .string ⟨#[]⟩] w fun v w' => v = s.dc.length ∧ w' = w := by
  obtain ⟨x, am, fo, nf, es, lab, hx, rfl⟩ := h
  refine Calls.mono (loose_dir w base d x hx.dk.dir (by rw [hx.c1, hup])) ?_
  rintro e w' ⟨v, rfl, rfl, rfl⟩
  exact ⟨_, rfl, by rw [← hx.dc]; simp, rfl⟩
theorem loosed_down (w : World) (base d : Nat) (s : DS) (N : Nat) (own : Nat → Prop) (h : Rep w base d s N own) (hd : s.down = true) : Ans 9 #[.pointer (some ⟨d, 0, none⟩), .string ⟨#[]⟩] w fun v w' => v = 0 ∧ Below w.heap.size w w' := by
  have c29 := down_refuses h hd (.slice none 0 0)
  have c30 := find_down d ⟨#[]⟩ w (hd ▸ isDown h)
  clear h
  go_enter Try.func9, Try.ntmps9
  go_wp2_with (first | (go_at_call 29; refine c29.mono ?_; rintro e w1 ⟨rfl, hw⟩; have hw := hw.symm; subst hw) | (go_at_call 30; refine c30.mono ?_; rintro e w1 ⟨rfl, hb⟩; have HB := hide2 hb; clear hb))
  go_ret
  exact ⟨0, rfl, rfl, HB.out⟩
theorem namesL_short {w : World} {base : Nat} {mv : Value} {od : Option (DataW Unit)} {n : Nat} (h : Dm w base mv od n) {nm : ByteArray} (hm : nm ∈ namesL od) : nm.size ≤ maxLen := by
  rcases h with ⟨_, rfl⟩ | ⟨m, D, e, rfl, _, hown, _⟩
  · cases hm
  · obtain ⟨es, hD, hko⟩ := hown.keysOf
    subst hD
    obtain ⟨l, hl, rfl⟩ := List.mem_map.1 (show nm ∈ ((strKeys (.map es : DataW Unit)).mergeSort leB).map fun l => (⟨l.toArray⟩ : ByteArray) from hm)
    have hl2 : l ∈ strKeys (.map es : DataW Unit) := (List.mergeSort_perm _ _).mem_iff.1 hl
    obtain ⟨p, hp, rfl⟩ := List.mem_map.1 (show l ∈ es.map fun p => strOf p.1 from hl2)
    obtain ⟨v, hv⟩ := hko p hp
    obtain ⟨a, h1, h2, h3⟩ := Maps.keyOf_str Try.underlying9 hv
    rw [h2]
    show a.toArray.size ≤ maxLen
    simpa using h3
theorem names_up (w : World) (base d : Nat) (s : DS) (N : Nat) (own : Nat → Prop) (h : Rep w base d s N own) (hN : N < 1000000) (hup : s.down = false) : ∃ L : List ByteArray, Names s.dn L ∧ L.length ≤ N ∧ (∀ nm ∈ L, nm.size ≤ maxLen) ∧ Calls Try.prog 11 #[.pointer (some ⟨d, 0, none⟩)] w fun e w' => ∃ v, e = .returned v ∧ w'.ownsRow w.heap.size 9 1 v L.length (L.map Value.string) ∧ Below w.heap.size w w' := by
  obtain ⟨x, am, fo, nf, es, lab, hx, rfl⟩ := h
  have hb4 := hx.b4
  have hsz : x.now.elim 0 Go.Maps.size ≤ N := Nat.le_trans (dm_size hx.dk.dir.now) hb4
  exact ⟨namesL x.now, hx.names, by rw [names_length hx.dk.dir.now]; exact hsz, fun nm hm => namesL_short hx.dk.dir.now hm, names_any w base d x hx.dk.dir (by rw [hx.c1, hup]) (by omega)⟩
theorem names_down (w : World) (base d : Nat) (s : DS) (N : Nat) (own : Nat → Prop) (h : Rep w base d s N own) (hd : s.down = true) : Calls Try.prog 11 #[.pointer (some ⟨d, 0, none⟩)] w fun e w' => e = .returned (.slice none 0 0) ∧ w' = w := by
  have c29 := down_refuses h hd (.slice none 0 0)
  clear h
  go_enter Try.func11, Try.ntmps11
  go_wp2_with (first | (go_at_call 29; refine c29.mono ?_; rintro e w1 ⟨rfl, hw⟩; have hw := hw.symm; subst hw))
  go_ret
  exact ⟨rfl, rfl⟩
end Go.Proofs.Ytkmohpdcchpndaa

/-
  What the statements lend out: bytes and numbers of their own, looked at, written over.
-/
namespace Go.Proofs.Ytkmohpdcchpndaa
open Go.RowKit
set_option linter.unusedVariables false
set_option linter.unusedSimpArgs false
set_option maxRecDepth 100000
theorem lent_all (w : World) (a : Option Addr) (n cap : Nat) (zs : List Int) (hn : zs.length = n) (hB : Has w a zs) (ho : Octets zs) (hbare : a = none → cap = 0) (hl : n ≤ 140737488351232) :
    Calls Try.prog 20 #[.slice a n cap] w fun e w' => ∃ g off cp, e = .returned (.slice (some ⟨g, off, none⟩) n cp) ∧ Buf w' w.heap.size (.slice (some ⟨g, off, none⟩) (n + 2) cp) (zs ++ [201, 202]) ∧ n + 2 ≤ cp ∧ (cp : Int) ≤ 9223372036854775807 ∧ w.heap.size ≤ g ∧ Below w.heap.size w w' := by
  obtain ⟨i0, hi, hz0, hz1, hz2⟩ := info_parts Try.info5
  have HL : Hid (zs.length = n) := hn
  have HO : Hid (Octets zs) := ho
  have HH : Hid (Has w a zs) := hB
  have HQ : Hid (a = none → cap = 0) := hbare
  clear hn ho hB hbare
  go_enter Try.func20, Try.ntmps20
  go_wp2_with (first
    | (at_builtin; refine wpList_append_buf _ rfl (.tmp 4) (.tmp 5) 32 rfl w.heap.size i0 Try.underlying32 hi hz0 hz1 hz2 (.slice none 0 0) [] rfl (Buf.nil _ _) a n cap zs rfl HL.out HQ.out HH.out HO.out (by simp; omega) (Nat.le_refl _) ?_; intro v1 w1 hb1 hg1 _; have B1 : Hid (Below w.heap.size w w1) := (Below.refl _ _).grown hg1 (Nat.le_refl _) (fun k h => by cases h); have H1 : Hid (Buf (w1.alloc (.cells #[.int .u8 201, .int .u8 202] 5 (0, 0))) w.heap.size v1 zs) := hb1.keep (fun k hk => Below.heap_alloc _ _ k (hb1.low hk).2); clear hb1 hg1)
    | (at_builtin; refine wpList_append_buf _ rfl (.tmp 6) (.tmp 7) 32 rfl w.heap.size i0 Try.underlying32 hi hz0 hz1 hz2 v1 zs rfl H1.out (some ⟨w1.heap.size, 0, none⟩) 2 2 [201, 202] rfl rfl (fun h => by cases h) (Has.of_block (zs := [201, 202]) (Go.heap_alloc_new w1 _)) (fun j => by match j with | 0 => simp | 1 => simp | j + 2 => simp) (by rw [HL.out]; omega) (by have := B1.out.size; simp; omega) ?_; intro v2 w2 hb2 hg2 _; obtain ⟨g, off, cp, hv2, H2, k1, k2, k3, B2⟩ := lent_fin HL.out HO.out B1 H1 hb2 hg2; subst hv2; have HX := hideL hb2; clear hb2 hg2 H1 B1))
  go_ret
  exact ⟨g, off, cp, rfl, HX.out, by omega, k2, k3, B2.out⟩
theorem ints_all (w : World) (a : Option Addr) (n cap : Nat) (cs : List Int) (hn : cs.length = n) (hN : Nums w a cs) (hbare : a = none → cap = 0) (hl : n ≤ 17592186043904) :
    Calls Try.prog 14 #[.slice a n cap] w fun e w' => ∃ g cp, e = .returned (.slice (some ⟨g, 0, none⟩) n cp) ∧ w'.ownsRow w.heap.size 3 1 (.slice (some ⟨g, 0, none⟩) (n + 1) cp) (n + 1) (ivs cs ++ ivs [-77]) ∧ (n : Int) + 1 ≤ cp ∧ (cp : Int) ≤ 9223372036854775807 ∧ IntsOut w w' cs n g cp := by
  obtain ⟨i0, hi, hz0, hz1, hz2⟩ := info_parts Try.info3i
  have HL : Hid (cs.length = n) := hn
  have HE : Hid (w.ownsRow w.heap.size 3 1 (.slice none 0 0) 0 []) := World.ownsRow_nil _ _ _ _
  have H1 : Hid (∀ u ∈ ivs [-77], u.oneCell' = true) := ivs_one _
  have HO : Hid (∀ u ∈ ivs cs, u.oneCell' = true) := ivs_one cs
  rcases hN with ⟨rfl, rfl⟩ | ⟨x0, rfl, hc⟩
  · obtain rfl := hbare rfl
    obtain rfl : n = 0 := by simpa using hn.symm
    clear hn hbare
    go_enter Try.func14, Try.ntmps14
    go_wp2_with (first
      | (at_builtin; refine wpList_append_own_none rfl (.tmp 4) (.tmp 5) 23 rfl w.heap.size 3 i0 1 Try.underlying23 hi (.slice none 0 0) 0 [] rfl HE.out rfl ?_)
      | (at_builtin; refine wpList_append_own _ rfl (.tmp 6) (.tmp 7) 23 rfl w.heap.size 3 i0 (.int .i64 0) 1 8 Try.underlying23 hi hz0 hz1 hz2 rfl (by omega) (.slice none 0 0) 0 [] rfl (World.ownsRow_nil _ _ _ _) ⟨w.heap.size, 0, none⟩ 1 1 (ivs [-77]) rfl rfl (World.news_of_block (Go.heap_alloc_new w _)) H1.out (by unfold maxLen; omega) (by omega) (by simp) ?_; intro v2 w2 hb2 hg2 _; obtain ⟨g, cp, hv2, H2, k1, k2, k3, k4, B2⟩ := ints_fin (w := w) (w1 := w) (cs := []) rfl (Below.refl _ _) (World.ownsRow_nil _ _ _ _) hb2 hg2; subst hv2; have HX := hideL hb2; clear hb2 hg2))
    go_ret
    exact ⟨g, cp, rfl, HX.out, by omega, k2, ⟨fun j hj => (by cases hj), k3, k4, B2.out⟩⟩
  · have HW : Hid (∀ j u, (ivs cs)[j]? = some u → w.cell? (x0.add j) = some u) := fun j u hj => by
      rw [List.getElem?_map] at hj
      obtain ⟨c, hcc, rfl⟩ := Option.map_eq_some_iff.1 hj
      have hjl := (List.getElem?_eq_some_iff.1 hcc).1
      rw [hc j hjl]
      simp [List.getD, hcc]
    have HLL : Hid ((ivs cs).length = n * 1) := (by simp [hn] : (ivs cs).length = n * 1)
    clear hn hbare hc
    go_enter Try.func14, Try.ntmps14
    go_wp2_with (first
      | (at_builtin; refine wpList_append_own _ rfl (.tmp 4) (.tmp 5) 23 rfl w.heap.size 3 i0 (.int .i64 0) 1 8 Try.underlying23 hi hz0 hz1 hz2 rfl (by omega) (.slice none 0 0) 0 [] rfl HE.out x0 n cap (ivs cs) rfl HLL.out HW.out HO.out (by unfold maxLen; omega) (by omega) (Nat.le_refl _) ?_; intro v1 w1 hb1 hg1 _; have B1 : Hid (Below w.heap.size w w1) := (Below.refl _ _).grown hg1 (Nat.le_refl _) (fun k h => by cases h); have R1 : Hid ((w1.alloc (.cells #[.int .i64 (-77)] 3 (0, 0))).ownsRow w.heap.size 3 1 v1 n (ivs cs)) := (by rw [Nat.zero_add, List.nil_append] at hb1; exact own_blk' hb1 (fun k hk => Below.heap_alloc _ _ k (hb1.lt k hk).2)); clear hb1 hg1)
      | (at_builtin; refine wpList_append_own _ rfl (.tmp 6) (.tmp 7) 23 rfl w.heap.size 3 i0 (.int .i64 0) 1 8 Try.underlying23 hi hz0 hz1 hz2 rfl (by omega) v1 n (ivs cs) rfl R1.out ⟨w1.heap.size, 0, none⟩ 1 1 (ivs [-77]) rfl rfl (World.news_of_block (Go.heap_alloc_new w1 _)) H1.out (by unfold maxLen; omega) (by omega) (by have := B1.out.size; simp; omega) ?_; intro v2 w2 hb2 hg2 _; obtain ⟨g, cp, hv2, H2, k1, k2, k3, k4, B2⟩ := ints_fin HL.out B1 R1 hb2 hg2; subst hv2; have HX := hideL hb2; clear hb2 hg2 R1 B1))
    go_ret
    exact ⟨g, cp, rfl, HX.out, k1, k2, ⟨H2.out, k3, k4, B2.out⟩⟩

/-- Bytes of one's own, written over: all else is as it was. -/
structure Ovb (w4 wr : World) (g off n : Nat) : Prop where
  but : But g w4 wr
  cel : ∀ j, j < n → ∃ c cur, 0 ≤ c ∧ c ≤ 255 ∧ wr.heap[g]? = some (.cells cur 5 (0, 0)) ∧ cur[off + j]? = some (.int .u8 c)
theorem Ovb.start {w : World} {base g off cp n : Nat} {zs : List Int} (h : Buf w base (.slice (some ⟨g, off, none⟩) n cp) zs) (m : Nat) (hm : m ≤ zs.length) : Ovb w w g off m := by
  refine ⟨But.refl _ _, fun j hj => ?_⟩
  rcases h.2 with ⟨h1, _⟩ | ⟨g', off', cap, cur, hv, _, hg, _, _, _, h4⟩
  · cases h1
  · cases hv
    have hc := h4 j (by omega)
    rw [cell_block hg] at hc
    exact ⟨_, cur, (h.1 j).1, (h.1 j).2, hg, hc⟩
theorem Ovb.put {w4 wr : World} {g off n i : Nat} {c : Int} (h : Ovb w4 wr g off n) (h0 : 0 ≤ c) (h1 : c ≤ 255) : Ovb w4 (wr.setCell ⟨g, off + i, none⟩ (.int .u8 c)) g off n := by
  refine ⟨h.but.trans (But.set _ _), fun j hj => ?_⟩
  obtain ⟨c', cur, a0, a1, hg, hc⟩ := h.cel j hj
  by_cases e : j = i
  · subst e
    refine ⟨c, _, h0, h1, block_setCell hg (off + j) _, ?_⟩
    have := (Array.getElem?_eq_some_iff.1 hc).1
    simp [this]
  · refine ⟨c', _, a0, a1, block_setCell hg (off + i) _, ?_⟩
    rw [Array.getElem?_setIfInBounds_ne (by omega)]
    exact hc
/-- Numbers of one's own, written over. -/
structure Ovi (w4 wr : World) (g n : Nat) : Prop where
  but : But g w4 wr
  cel : ∀ j, j < n → ∃ c cur, wr.heap[g]? = some (.cells cur 3 (0, 0)) ∧ cur[j]? = some (.int .i64 c)
theorem Ovi.start {w : World} {base g cp n : Nat} {cs : List Int} (h : w.ownsRow base 3 1 (.slice (some ⟨g, 0, none⟩) n cp) n (ivs cs)) (m : Nat) (hm : m ≤ n) : Ovi w w g m := by
  refine ⟨But.refl _ _, fun j hj => ?_⟩
  obtain ⟨cur, hc⟩ := own_cells h g rfl
  have hl := h.1
  have h1 := h.cellAt j (by omega)
  rw [cell_block hc] at h1
  have hj2 : j < (ivs cs).length := by omega
  rw [List.getElem?_eq_getElem hj2] at h1
  simp at h1
  exact ⟨_, cur, hc, h1⟩
theorem Ovi.put {w4 wr : World} {g n i : Nat} (c : Int) (h : Ovi w4 wr g n) : Ovi w4 (wr.setCell ⟨g, i, none⟩ (.int .i64 c)) g n := by
  refine ⟨h.but.trans (But.set _ _), fun j hj => ?_⟩
  obtain ⟨c', cur, hg, hc⟩ := h.cel j hj
  by_cases e : j = i
  · subst e
    refine ⟨c, _, block_setCell hg j _, ?_⟩
    have := (Array.getElem?_eq_some_iff.1 hc).1
    simp [this]
  · refine ⟨c', _, block_setCell hg i _, ?_⟩
    rw [Array.getElem?_setIfInBounds_ne (by omega)]
    exact hc
theorem buf_has {w : World} {base : Nat} {a : Option Addr} {n c : Nat} {zs : List Int} (h : Buf w base (.slice a n c) zs) : Has w a zs := by
  obtain ⟨ao, ci, hv, _, hH, _⟩ := h.form
  injection hv with h1 _ _
  subst h1
  exact hH
theorem kept_all (W : World) (base g off n cp : Nat) (a : Option Addr) (cap : Nat) (zs : List Int) (hn : zs.length = n) (hB : Buf W base (.slice (some ⟨g, off, none⟩) (n + 2) cp) (zs ++ [201, 202])) (hc : n + 2 ≤ cp) (hc2 : (cp : Int) ≤ 9223372036854775807) (hH : Has W a zs) :
    Calls Try.prog 54 #[.slice (some ⟨g, off, none⟩) n cp, .slice a n cap] W fun e w' => e = .returned (.bool true) ∧ w' = W := by
  have hz : (zs ++ [201, 202]).length = n + 2 := by simp [hn]
  have cells : ∀ j, j < n + 2 → W.cell? ⟨g, off + j, none⟩ = some (.int .u8 ((zs ++ [201, 202]).getD j 0)) := fun j hj => by
    rcases buf_has hB with ⟨h1, _⟩ | ⟨x, hx, h4⟩
    · cases h1
    · cases hx
      have := h4 j (by omega)
      rwa [Addr.add_lit] at this
  have m1 : W.cell? ⟨g, off + n, none⟩ = some (.int .u8 201) := by rw [cells n (by omega)]; simp [List.getD, ← hn]
  have m2 : W.cell? ⟨g, off + (n + 1), none⟩ = some (.int .u8 202) := by rw [cells (n + 1) (by omega)]; simp [List.getD, ← hn]
  have hHg : Has W (some ⟨g, off, none⟩) zs := .inr ⟨_, rfl, fun j hj => by
    rw [Addr.add_lit, cells j (by omega)]
    simp [List.getD, List.getElem?_append_left hj]⟩
  have s1 := str_of W (some ⟨g, off, none⟩) n cp zs hn hHg
  have s2 := str_of W a n cap zs hn hH
  obtain ⟨S, hS⟩ : ∃ S, bstr zs = S := ⟨_, rfl⟩
  rw [hS] at s1 s2
  have n0 : (0 : Int) ≤ n := by omega
  have n2 : (n : Int) + 2 ≤ cp := by omega
  clear hB cells hHg hH hS hz hn
  go_enter Try.func54, Try.ntmps54
  go_wp2
  go_ret
  exact ⟨rfl, rfl⟩
theorem stay_all (W : World) (base g n cp : Nat) (a : Option Addr) (cap : Nat) (cs : List Int) (hn : cs.length = n) (hR : W.ownsRow base 3 1 (.slice (some ⟨g, 0, none⟩) (n + 1) cp) (n + 1) (ivs cs ++ ivs [-77])) (hc : (n : Int) + 1 ≤ cp) (hc2 : (cp : Int) ≤ 9223372036854775807) (hH : Nums W a cs) (hl : n ≤ 17592186043904) :
    Calls Try.prog 56 #[.slice (some ⟨g, 0, none⟩) n cp, .slice a n cap] W fun e w' => e = .returned (.bool true) ∧ Below W.heap.size W w' := by
  have m1 : W.cell? ⟨g, n, none⟩ = some (.int .i64 (-77)) := by rw [hR.cellAt n (by omega)]; simp [List.getElem?_append_right, ← hn]
  have n0 : (0 : Int) ≤ n := by omega
  have HN := hideL hn
  have HR := hideL hR
  have HH := hideL hH
  clear hR hH hn
  go_enter Try.func56, Try.ntmps56
  go_wp2
  go_loopw [5] (fun t wr => ∃ i q : Nat, t = .int .i64 i ∧ i ≤ n ∧ wr = W.drewN q) (fun t _ => n - (intOf t).toNat)
  case atStart => exact ⟨0, 0, rfl, by omega, by simp [World.drewN]⟩
  case round =>
    obtain ⟨i, q, rfl, hi, rfl⟩ := hrel
    have i0 : (0 : Int) ≤ i := by omega
    by_cases hin : i < n
    · have hi2 : (i : Int) < n := by omega
      rcases HH.out with ⟨_, h⟩ | ⟨x, rfl, hx⟩
      · have := HN.out; rw [h] at this; simp at this; omega
      obtain ⟨z, hz⟩ : ∃ z, cs.getD i 0 = z := ⟨_, rfl⟩
      have e1 : W.cell? ⟨g, i, none⟩ = some (.int .i64 z) := by
        rw [HR.out.cellAt i (by omega), List.getElem?_append_left (by simp [HN.out]; omega), List.getElem?_map]
        have : i < cs.length := by have := HN.out; omega
        simp [← hz, List.getD, this]
      have e2 : W.cell? (x.add i) = some (.int .i64 z) := by rw [hx i (by have := HN.out; omega), hz]
      clear hz hx
      go_wp2_with fail
      go_quiet (fail)
      go_wp2
      go_roundw
      case rel => exact ⟨i + 1, q + nq, by go_num, by omega, rfl⟩
      case measure => simp [intOf]; omega
    · have hi2 : ¬ (i : Int) < n := by omega
      go_wp2
      go_ret
      exact ⟨rfl, ⟨rfl, rfl, rfl, Nat.le_refl _, fun _ _ => rfl⟩⟩
end Go.Proofs.Ytkmohpdcchpndaa

/-
  A call of a script, done at a disk.
-/
namespace Go.Proofs.Ytkmohpdcchpndaa
open Go.RowKit
set_option linter.unusedVariables false
set_option linter.unusedSimpArgs false
set_option maxRecDepth 100000
/-- Behind a call of a script the disk says something. -/
def DoesE (w : World) (base d : Nat) (own : Nat → Prop) (N : Nat) (e : Ending) (w' : World) : Prop := ∃ v b s' own', e = .returned (.tuple #[.int .i64 v, .bool b]) ∧ Rep w' base d s' N own' ∧ Fr w w' own own'
theorem does_create {w : World} {base d : Nat} {s : DS} {N : Nat} {own : Nat → Prop} (h : Rep w base d s N own) (hN : N + 1 < 1000000) (nm to_ : ByteArray) (hs : nm.size ≤ maxLen) (hs2 : to_.size ≤ maxLen) (k : Int) (ad : Option Addr) (nd cd : Nat) (ac : Option Addr) (nc cc : Nat) (on : Bool) : Calls Try.prog 28 #[.pointer (some ⟨d, 0, none⟩), .agg #[.int .i64 0, .string nm, .string to_, .int .i64 k, .slice ad nd cd, .slice ac nc cc, .bool on]] w (DoesE w base d own (N + 1)) := by
  have b0 : Below w.heap.size w (w.alloc (.cells #[.int .i64 0, .string nm, .string to_, .int .i64 k, .slice ad nd cd, .slice ac nc cc, .bool on] 46 (0, 0))) := (Below.refl _ w).alloc (Nat.le_refl _) _
  have HT := hideL (create_tot (h.below b0) hN nm hs)
  have HB := hideL b0
  clear b0 h
  go_enter Try.func28, Try.ntmps28
  go_wp2_with (go_at_call 18; refine Calls.mono HT.out ?_; rintro e w1 ⟨v, rfl, s', own', hr, hf⟩; have HR := hideL hr; have HF := hideL hf; clear hr hf)
  refine bodyPost_ret (v := .tuple #[.int .i64 v, .bool true]) (by simp [results, Try.results28, go_sem]) rfl ?_
  exact ⟨v, true, s', own', rfl, HR.out, (Fr.below HB.out own).trans HF.out⟩
theorem does_cut {w : World} {base d : Nat} {s : DS} {N : Nat} {own : Nat → Prop} (h : Rep w base d s N own) (hN : N + 1 < 1000000) (nm to_ : ByteArray) (hs : nm.size ≤ maxLen) (hs2 : to_.size ≤ maxLen) (k : Int) (ad : Option Addr) (nd cd : Nat) (ac : Option Addr) (nc cc : Nat) (on : Bool) : Calls Try.prog 28 #[.pointer (some ⟨d, 0, none⟩), .agg #[.int .i64 2, .string nm, .string to_, .int .i64 k, .slice ad nd cd, .slice ac nc cc, .bool on]] w (DoesE w base d own (N + 1)) := by
  have b0 : Below w.heap.size w (w.alloc (.cells #[.int .i64 2, .string nm, .string to_, .int .i64 k, .slice ad nd cd, .slice ac nc cc, .bool on] 46 (0, 0))) := (Below.refl _ w).alloc (Nat.le_refl _) _
  have HT := hideL (cut_tot (h.below b0) hN nm hs k)
  have HB := hideL b0
  clear b0 h
  go_enter Try.func28, Try.ntmps28
  go_wp2_with (go_at_call 22; refine Calls.mono HT.out ?_; rintro e w1 ⟨v, rfl, s', own', hr, hf⟩; have HR := hideL hr; have HF := hideL hf; clear hr hf)
  refine bodyPost_ret (v := .tuple #[.int .i64 v, .bool true]) (by simp [results, Try.results28, go_sem]) rfl ?_
  exact ⟨v, true, s', own', rfl, HR.out, (Fr.below HB.out own).trans HF.out⟩
theorem does_sync {w : World} {base d : Nat} {s : DS} {N : Nat} {own : Nat → Prop} (h : Rep w base d s N own) (hN : N + 1 < 1000000) (nm to_ : ByteArray) (hs : nm.size ≤ maxLen) (hs2 : to_.size ≤ maxLen) (k : Int) (ad : Option Addr) (nd cd : Nat) (ac : Option Addr) (nc cc : Nat) (on : Bool) : Calls Try.prog 28 #[.pointer (some ⟨d, 0, none⟩), .agg #[.int .i64 3, .string nm, .string to_, .int .i64 k, .slice ad nd cd, .slice ac nc cc, .bool on]] w (DoesE w base d own (N + 1)) := by
  have b0 : Below w.heap.size w (w.alloc (.cells #[.int .i64 3, .string nm, .string to_, .int .i64 k, .slice ad nd cd, .slice ac nc cc, .bool on] 46 (0, 0))) := (Below.refl _ w).alloc (Nat.le_refl _) _
  have HT := hideL (sync_tot (h.below b0) hN nm hs)
  have HB := hideL b0
  clear b0 h
  go_enter Try.func28, Try.ntmps28
  go_wp2_with (go_at_call 21; refine Calls.mono HT.out ?_; rintro e w1 ⟨v, rfl, s', own', hr, hf⟩; have HR := hideL hr; have HF := hideL hf; clear hr hf)
  refine bodyPost_ret (v := .tuple #[.int .i64 v, .bool true]) (by simp [results, Try.results28, go_sem]) rfl ?_
  exact ⟨v, true, s', own', rfl, HR.out, (Fr.below HB.out own).trans HF.out⟩
theorem does_rename {w : World} {base d : Nat} {s : DS} {N : Nat} {own : Nat → Prop} (h : Rep w base d s N own) (hN : N + 1 < 1000000) (nm to_ : ByteArray) (hs : nm.size ≤ maxLen) (hs2 : to_.size ≤ maxLen) (k : Int) (ad : Option Addr) (nd cd : Nat) (ac : Option Addr) (nc cc : Nat) (on : Bool) : Calls Try.prog 28 #[.pointer (some ⟨d, 0, none⟩), .agg #[.int .i64 4, .string nm, .string to_, .int .i64 k, .slice ad nd cd, .slice ac nc cc, .bool on]] w (DoesE w base d own (N + 1)) := by
  have b0 : Below w.heap.size w (w.alloc (.cells #[.int .i64 4, .string nm, .string to_, .int .i64 k, .slice ad nd cd, .slice ac nc cc, .bool on] 46 (0, 0))) := (Below.refl _ w).alloc (Nat.le_refl _) _
  have HT := hideL (rename_tot (h.below b0) hN nm to_ hs hs2)
  have HB := hideL b0
  clear b0 h
  go_enter Try.func28, Try.ntmps28
  go_wp2_with (go_at_call 26; refine Calls.mono HT.out ?_; rintro e w1 ⟨v, rfl, s', own', hr, hf⟩; have HR := hideL hr; have HF := hideL hf; clear hr hf)
  refine bodyPost_ret (v := .tuple #[.int .i64 v, .bool true]) (by simp [results, Try.results28, go_sem]) rfl ?_
  exact ⟨v, true, s', own', rfl, HR.out, (Fr.below HB.out own).trans HF.out⟩
theorem does_remove {w : World} {base d : Nat} {s : DS} {N : Nat} {own : Nat → Prop} (h : Rep w base d s N own) (hN : N + 1 < 1000000) (nm to_ : ByteArray) (hs : nm.size ≤ maxLen) (hs2 : to_.size ≤ maxLen) (k : Int) (ad : Option Addr) (nd cd : Nat) (ac : Option Addr) (nc cc : Nat) (on : Bool) : Calls Try.prog 28 #[.pointer (some ⟨d, 0, none⟩), .agg #[.int .i64 5, .string nm, .string to_, .int .i64 k, .slice ad nd cd, .slice ac nc cc, .bool on]] w (DoesE w base d own (N + 1)) := by
  have b0 : Below w.heap.size w (w.alloc (.cells #[.int .i64 5, .string nm, .string to_, .int .i64 k, .slice ad nd cd, .slice ac nc cc, .bool on] 46 (0, 0))) := (Below.refl _ w).alloc (Nat.le_refl _) _
  have HT := hideL (remove_tot (h.below b0) hN nm hs)
  have HB := hideL b0
  clear b0 h
  go_enter Try.func28, Try.ntmps28
  go_wp2_with (go_at_call 55; refine Calls.mono HT.out ?_; rintro e w1 ⟨v, rfl, s', own', hr, hf⟩; have HR := hideL hr; have HF := hideL hf; clear hr hf)
  refine bodyPost_ret (v := .tuple #[.int .i64 v, .bool true]) (by simp [results, Try.results28, go_sem]) rfl ?_
  exact ⟨v, true, s', own', rfl, HR.out, (Fr.below HB.out own).trans HF.out⟩
theorem does_syncdir {w : World} {base d : Nat} {s : DS} {N : Nat} {own : Nat → Prop} (h : Rep w base d s N own) (hN : N + 1 < 1000000) (nm to_ : ByteArray) (hs : nm.size ≤ maxLen) (hs2 : to_.size ≤ maxLen) (k : Int) (ad : Option Addr) (nd cd : Nat) (ac : Option Addr) (nc cc : Nat) (on : Bool) : Calls Try.prog 28 #[.pointer (some ⟨d, 0, none⟩), .agg #[.int .i64 6, .string nm, .string to_, .int .i64 k, .slice ad nd cd, .slice ac nc cc, .bool on]] w (DoesE w base d own (N + 1)) := by
  have b0 : Below w.heap.size w (w.alloc (.cells #[.int .i64 6, .string nm, .string to_, .int .i64 k, .slice ad nd cd, .slice ac nc cc, .bool on] 46 (0, 0))) := (Below.refl _ w).alloc (Nat.le_refl _) _
  have HT := hideL (syncdir_tot (h.below b0) hN)
  have HB := hideL b0
  clear b0 h
  go_enter Try.func28, Try.ntmps28
  go_wp2_with (go_at_call 10; refine Calls.mono HT.out ?_; rintro e w1 ⟨v, rfl, s', own', hr, hf⟩; have HR := hideL hr; have HF := hideL hf; clear hr hf)
  refine bodyPost_ret (v := .tuple #[.int .i64 v, .bool true]) (by simp [results, Try.results28, go_sem]) rfl ?_
  exact ⟨v, true, s', own', rfl, HR.out, (Fr.below HB.out own).trans HF.out⟩
theorem does_up {w : World} {base d : Nat} {s : DS} {N : Nat} {own : Nat → Prop} (h : Rep w base d s N own) (hN : N + 1 < 1000000) (nm to_ : ByteArray) (hs : nm.size ≤ maxLen) (hs2 : to_.size ≤ maxLen) (k : Int) (ad : Option Addr) (nd cd : Nat) (ac : Option Addr) (nc cc : Nat) (on : Bool) : Calls Try.prog 28 #[.pointer (some ⟨d, 0, none⟩), .agg #[.int .i64 9, .string nm, .string to_, .int .i64 k, .slice ad nd cd, .slice ac nc cc, .bool on]] w (DoesE w base d own (N + 1)) := by
  have b0 : Below w.heap.size w (w.alloc (.cells #[.int .i64 9, .string nm, .string to_, .int .i64 k, .slice ad nd cd, .slice ac nc cc, .bool on] 46 (0, 0))) := (Below.refl _ w).alloc (Nat.le_refl _) _
  have HT := hideL (up_tot (h.below b0))
  have HB := hideL b0
  clear b0 h
  go_enter Try.func28, Try.ntmps28
  go_wp2_with (go_at_call 16; refine Calls.mono HT.out ?_; rintro e w1 ⟨rfl, s', own', hr, hf⟩; have HR := hideL hr; have HF := hideL hf; clear hr hf)
  refine bodyPost_ret (v := .tuple #[.int .i64 0, .bool true]) (by simp [results, Try.results28, go_sem]) rfl ?_
  exact ⟨0, true, s', own', rfl, HR.out, (Fr.below HB.out own).trans HF.out⟩
theorem does_other {w : World} {base d : Nat} {s : DS} {N : Nat} {own : Nat → Prop} (h : Rep w base d s N own) (hN : N + 1 < 1000000) (nm to_ : ByteArray) (hs : nm.size ≤ maxLen) (hs2 : to_.size ≤ maxLen) (k : Int) (ad : Option Addr) (nd cd : Nat) (ac : Option Addr) (nc cc : Nat) (on : Bool) (K : Int) (hK : K < 0 ∨ 9 < K) : Calls Try.prog 28 #[.pointer (some ⟨d, 0, none⟩), .agg #[.int .i64 K, .string nm, .string to_, .int .i64 k, .slice ad nd cd, .slice ac nc cc, .bool on]] w (DoesE w base d own (N + 1)) := by
  have HB : Hid (Below w.heap.size w (w.alloc (.cells #[.int .i64 K, .string nm, .string to_, .int .i64 k, .slice ad nd cd, .slice ac nc cc, .bool on] 46 (0, 0)))) := (Below.refl _ w).alloc (Nat.le_refl _) _
  have h0 : (K == 0) = false := by rw [beq_eq_false_iff_ne]; omega
  have h1 : (K == 1) = false := by rw [beq_eq_false_iff_ne]; omega
  have h2 : (K == 2) = false := by rw [beq_eq_false_iff_ne]; omega
  have h3 : (K == 3) = false := by rw [beq_eq_false_iff_ne]; omega
  have h4 : (K == 4) = false := by rw [beq_eq_false_iff_ne]; omega
  have h5 : (K == 5) = false := by rw [beq_eq_false_iff_ne]; omega
  have h6 : (K == 6) = false := by rw [beq_eq_false_iff_ne]; omega
  have h7 : (K == 7) = false := by rw [beq_eq_false_iff_ne]; omega
  have h8 : (K == 8) = false := by rw [beq_eq_false_iff_ne]; omega
  have h9 : (K == 9) = false := by rw [beq_eq_false_iff_ne]; omega
  have HH := hideL h
  clear h hK
  go_enter Try.func28, Try.ntmps28
  go_wp2
  refine bodyPost_ret (v := .tuple #[.int .i64 0, .bool true]) (by simp [results, Try.results28, go_sem]) rfl ?_
  exact ⟨0, true, s, own, rfl, (HH.out.below HB.out).mono (by omega), Fr.below HB.out own⟩
theorem Has.fr {w w' : World} {own own' : Nat → Prop} {a : Option Addr} {zs : List Int} (h : Has w a zs) (hf : Fr w w' own own') (hn : ∀ x, a = some x → 0 < zs.length → ¬ own x.block) : Has w' a zs := by
  rcases h with h | ⟨x, rfl, hc⟩
  · exact .inl h
  · refine .inr ⟨x, rfl, fun j hj => ?_⟩
    have hcj := hc j hj
    have hlt := World.block_lt_of_cell? w _ hcj
    have hb : (x.add j).block = x.block := by unfold Addr.add; split <;> rfl
    exact (World.cell?_of_block (w := w) (a := x.add j) (hf.block _ hlt (by rw [hb]; exact hn x rfl (by omega)))).trans hcj
theorem Nums.fr {w w' : World} {own own' : Nat → Prop} {a : Option Addr} {zs : List Int} (h : Nums w a zs) (hf : Fr w w' own own') (hn : ∀ x, a = some x → 0 < zs.length → ¬ own x.block) : Nums w' a zs := by
  rcases h with h | ⟨x, rfl, hc⟩
  · exact .inl h
  · refine .inr ⟨x, rfl, fun j hj => ?_⟩
    have hcj := hc j hj
    have hlt := World.block_lt_of_cell? w _ hcj
    have hb : (x.add j).block = x.block := by unfold Addr.add; split <;> rfl
    exact (World.cell?_of_block (w := w) (a := x.add j) (hf.block _ hlt (by rw [hb]; exact hn x rfl (by omega)))).trans hcj
/-- Behind what is written over. -/
theorem fr_but {w w2 w3 : World} {own own' : Nat → Prop} {g : Nat} (h : Fr w w2 own own') (hb : But g w2 w3) (hg : w.heap.size ≤ g) : Fr w w3 own own' :=
  ⟨hb.os.trans h.os, hb.tape.trans h.tape, hb.output.trans h.output, Nat.le_trans h.size hb.size, fun k hk hn => (hb.block k (Nat.lt_of_lt_of_le hk h.size) (by omega)).trans (h.block k hk hn), h.sub⟩
theorem rep_but {w2 w3 : World} {base d : Nat} {s : DS} {N : Nat} {own' : Nat → Prop} {g : Nat} (h : Rep w2 base d s N own') (hb : But g w2 w3) (hg : ¬ own' g) : Rep w3 base d s N own' :=
  h.keep hb.size fun k hk ho => hb.block k hk (fun e => hg (e ▸ ho))
set_option maxHeartbeats 4000000 in
theorem does_write {w : World} {base d : Nat} {s : DS} {N : Nat} {own : Nat → Prop} (h : Rep w base d s N own) (hN : N + 1 < 1000000) (nm to_ : ByteArray) (hs : nm.size ≤ maxLen) (hs2 : to_.size ≤ maxLen) (k : Int) (ad : Option Addr) (nd cd : Nat) (ac : Option Addr) (nc cc : Nat) (on : Bool) (zs : List Int) (hn : zs.length = nd) (hB : Has w ad zs) (ho : Octets zs) (hbare : ad = none → cd = 0) (hda : ∀ x, ad = some x → 0 < nd → ¬ own x.block) (hl : nd ≤ 140737488351232) : Calls Try.prog 28 #[.pointer (some ⟨d, 0, none⟩), .agg #[.int .i64 1, .string nm, .string to_, .int .i64 k, .slice ad nd cd, .slice ac nc cc, .bool on]] w (DoesE w base d own (N + 1)) := by
  have b0 : Below w.heap.size w (w.alloc (.cells #[.int .i64 1, .string nm, .string to_, .int .i64 k, .slice ad nd cd, .slice ac nc cc, .bool on] 46 (0, 0))) := (Below.refl _ w).alloc (Nat.le_refl _) _
  have k0 := Go.heap_alloc_new w (.cells #[.int .i64 1, .string nm, .string to_, .int .i64 k, .slice ad nd cd, .slice ac nc cc, .bool on] 46 (0, 0))
  have HB0 := hideL b0
  have HH := hideL h
  have HZ := hideL hn
  have HO := hideL ho
  have HA := hideL hB
  have HQ := hideL hbare
  go_enter Try.func28, Try.ntmps28
  go_wp2_with fail
  obtain ⟨w0, hw0⟩ : ∃ W, w.alloc (.cells #[.int .i64 1, .string nm, .string to_, .int .i64 k, .slice ad nd cd, .slice ac nc cc, .bool on] 46 (0, 0)) = W := ⟨_, rfl⟩
  rw [hw0] at HB0 k0 ⊢
  clear hw0 b0 h hn ho hB hbare
  refine (lent_all w0 ad nd cd zs HZ.out (HA.out.of_below HB0.out) HO.out HQ.out hl).mono ?_
  rintro e w1 ⟨g, off, cp, rfl, hbuf, hcp1, hcp2, hg, hb1⟩
  have HBU := hideL hbuf
  have HB1 := hideL hb1
  have k1 := (hb1.block _ (lt_of_block k0)).trans k0
  have c1 : w1.cell? ⟨w.heap.size, 1, none⟩ = some (.string nm) := by rw [cell_block k1]; rfl
  have c3 : w1.cell? ⟨w.heap.size, 3, none⟩ = some (.int .i64 k) := by rw [cell_block k1]; rfl
  have hs0 := HB0.out.size
  have hs1 := hb1.size
  have hgl : g < w1.heap.size := (hbuf.low rfl).2
  clear hbuf hb1 k0
  have HK1 := hideL k1
  clear k1
  go_wp2_with fail
  have hR1 : Rep w1 base d s N own := (HH.out.below HB0.out).below HB1.out
  have hHas : Has w1 (some ⟨g, off, none⟩) zs := by
    rcases buf_has HBU.out with ⟨h1, _⟩ | ⟨x, hx, h4⟩
    · cases h1
    · cases hx
      refine .inr ⟨_, rfl, fun j hj => ?_⟩
      rw [h4 j (by simp; omega)]
      simp [List.getD, List.getElem?_append_left hj]
  refine Calls.mono (write_tot hR1 hN nm hs k (some ⟨g, off, none⟩) nd cp zs HZ.out (fun h => by cases h) hHas HO.out (by omega)) ?_
  rintro e w2 ⟨v, rfl, s', own', hr, hf⟩
  have hng : ¬ own g := fun h => by have := HH.out.lt h; omega
  have hnw : ¬ own w.heap.size := fun h => by have := HH.out.lt h; omega
  have HNG : Hid (¬ own' g) := fun h => (hf.sub g h).elim hng (fun h => by omega)
  have HBU2 := hideL (HBU.out.keep (fun q hq => by have e : q = g := by (injection hq with hq; exact hq.symm)
                                                   subst e; exact hf.block q hgl hng))
  have k2 := (hf.block _ (lt_of_block HK1.out) hnw).trans HK1.out
  have c4 : w2.cell? ⟨w.heap.size, 4, none⟩ = some (.slice ad nd cd) := by rw [cell_block k2]; rfl
  have HHa2 := hideL (((HA.out.of_below HB0.out).of_below HB1.out).fr hf (fun x hx h0 => hda x hx (by rw [← HZ.out]; exact h0)))
  have HR := hideL hr
  have HF : Hid (Fr w w2 own own') := (Fr.below HB0.out own).trans ((Fr.below HB1.out own).trans hf)
  clear hr hf k2 HK1 c1 c3 hHas hR1 HBU
  go_wp2_with (go_at_call 54; refine (kept_all w2 w0.heap.size g off nd cp ad cd zs HZ.out HBU2.out hcp1 hcp2 HHa2.out).mono ?_; rintro e w3 ⟨rfl, hw3⟩; obtain rfl : w2 = w3 := hw3.symm)
  have HOV := hideL (Ovb.start HBU2.out nd (by rw [List.length_append, HZ.out]; omega))
  have hgw : w.heap.size ≤ g := by omega
  have hnl : (nd : Int) ≤ 140737488351232 := by omega
  clear c4
  go_loopw [9] (fun t wr => ∃ i : Nat, t = .int .i64 i ∧ i ≤ nd ∧ Ovb w2 wr g off nd) (fun t _ => nd - (intOf t).toNat)
  case atStart => exact ⟨0, rfl, by omega, HOV.out⟩
  case round =>
    obtain ⟨i, rfl, hi, hov⟩ := hrel
    have i0 : (0 : Int) ≤ i := by omega
    by_cases hin : i < nd
    · have hi2 : (i : Int) < nd := by omega
      obtain ⟨c, cur, c0, c1, hgc, hcu⟩ := hov.cel i hin
      have hci : wr.cell? ⟨g, off + i, none⟩ = some (.int .u8 c) := by rw [cell_block hgc]; exact hcu
      have hfi : wr.frozen? ⟨g, off + i, none⟩ = false := by simp [World.frozen?, hgc]
      have hp : ∀ x, 0 ≤ x → x ≤ 255 → Ovb w2 (wr.setCell ⟨g, off + i, none⟩ (.int .u8 x)) g off nd := fun x h0 h1 => hov.put h0 h1
      have HP := hideL hp
      clear hov hp HOV hgc hcu
      go_wp2_with fail
      go_roundw
      case rel => exact ⟨i + 1, by go_num, by omega, HP.out _ (by omega) (by omega)⟩
      case measure => simp [intOf]; omega
    · have hi2 : ¬ (i : Int) < nd := by omega
      have HR3 := hideL (rep_but HR.out hov.but HNG.out)
      have HF3 := hideL (fr_but HF.out hov.but hgw)
      clear hov HOV
      go_wp2
      refine bodyPost_ret (v := .tuple #[.int .i64 v, .bool true]) (by simp [results, Try.results28, go_sem]) rfl ?_
      exact ⟨v, true, s', own', rfl, HR3.out, HF3.out⟩
theorem chs_of {w : World} {own : Nat → Prop} {n g cp : Nat} {cs : List Int} (hn : cs.length = n) (hc : ∀ j, j < cs.length → w.cell? ⟨g, 0 + j, none⟩ = some (.int .i64 (cs.getD j 0))) (hg : g < w.heap.size) (hno : ¬ own g) (hr : ∀ c ∈ cs, -9223372036854775808 ≤ c ∧ c ≤ 9223372036854775807) (hl : cs.length ≤ 17592186044000) : Chs w own (some ⟨g, 0, none⟩) n cp cs :=
  ⟨hn, ⟨[g], .inr ⟨g, 0, rfl, by simp, hc⟩, fun k hk => by simp at hk; subst hk; exact ⟨hg, hno⟩⟩, fun h => (by cases h), hr, hl⟩
set_option maxHeartbeats 4000000 in
theorem does_crash {w : World} {base d : Nat} {s : DS} {N : Nat} {own : Nat → Prop} (h : Rep w base d s N own) (hN : N + 1 < 1000000) (nm to_ : ByteArray) (hs : nm.size ≤ maxLen) (hs2 : to_.size ≤ maxLen) (k : Int) (ad : Option Addr) (nd cd : Nat) (ac : Option Addr) (nc cc : Nat) (on : Bool) (cs : List Int) (hn : cs.length = nc) (hNm : Nums w ac cs) (hcr : ∀ c ∈ cs, -9223372036854775808 ≤ c ∧ c ≤ 9223372036854775807) (hbare : ac = none → cc = 0) (hca : ∀ x, ac = some x → 0 < nc → ¬ own x.block) (hl : nc ≤ 17592186043904) (hk : k ≤ 9223372036854775807) : Calls Try.prog 28 #[.pointer (some ⟨d, 0, none⟩), .agg #[.int .i64 7, .string nm, .string to_, .int .i64 k, .slice ad nd cd, .slice ac nc cc, .bool on]] w (DoesE w base d own (N + 1)) := by
  have b0 : Below w.heap.size w (w.alloc (.cells #[.int .i64 7, .string nm, .string to_, .int .i64 k, .slice ad nd cd, .slice ac nc cc, .bool on] 46 (0, 0))) := (Below.refl _ w).alloc (Nat.le_refl _) _
  have k0 := Go.heap_alloc_new w (.cells #[.int .i64 7, .string nm, .string to_, .int .i64 k, .slice ad nd cd, .slice ac nc cc, .bool on] 46 (0, 0))
  have HB0 := hideL b0
  have HH := hideL h
  have HZ := hideL hn
  have HA := hideL hNm
  have HQ := hideL hbare
  have HCR := hideL hcr
  go_enter Try.func28, Try.ntmps28
  go_wp2_with fail
  obtain ⟨w0, hw0⟩ : ∃ W, w.alloc (.cells #[.int .i64 7, .string nm, .string to_, .int .i64 k, .slice ad nd cd, .slice ac nc cc, .bool on] 46 (0, 0)) = W := ⟨_, rfl⟩
  rw [hw0] at HB0 k0 ⊢
  clear hw0 b0 h hn hNm hbare hcr
  refine (ints_all w0 ac nc cc cs HZ.out (HA.out.below HB0.out) HQ.out hl).mono ?_
  rintro e w1 ⟨g, cp, rfl, hrow, hcp1, hcp2, hio⟩
  have HRO := hideL hrow
  have HIO := hideL hio
  have k1 := (hio.bel.block _ (lt_of_block k0)).trans k0
  have c0 : w1.cell? ⟨w.heap.size, 0, none⟩ = some (.int .i64 7) := by rw [cell_block k1]; rfl
  have c3 : w1.cell? ⟨w.heap.size, 3, none⟩ = some (.int .i64 k) := by rw [cell_block k1]; rfl
  have hs0 := HB0.out.size
  have hs1 := hio.bel.size
  have hgl := hio.lt
  have hgn := hio.new
  have HK1 := hideL k1
  clear hrow hio k0 k1
  have hng : ¬ own g := fun h => by have := HH.out.lt h; omega
  have hnw : ¬ own w.heap.size := fun h => by have := HH.out.lt h; omega
  have HT := hideL (crash_tot ((HH.out.below HB0.out).below HIO.out.bel) hN (some ⟨g, 0, none⟩) nc cp cs (chs_of HZ.out HIO.out.cells hgl hng HCR.out (by have := HZ.out; omega)))
  go_wp2_with fail
  refine Calls.mono HT.out ?_
  rintro e w2 ⟨rfl, s', own', hr, hf⟩
  have HNG : Hid (¬ own' g) := fun h => (hf.sub g h).elim hng (fun h => by omega)
  have HRO2 := hideL (own_blk' HRO.out (fun q hq => by cases hq; exact hf.block g hgl hng))
  have k2 := (hf.block _ (lt_of_block HK1.out) hnw).trans HK1.out
  have c5 : w2.cell? ⟨w.heap.size, 5, none⟩ = some (.slice ac nc cc) := by rw [cell_block k2]; rfl
  have HHa2 := hideL (((HA.out.below HB0.out).below HIO.out.bel).fr hf (fun x hx h0 => hca x hx (by rw [← HZ.out]; exact h0)))
  have HR := hideL hr
  have HF : Hid (Fr w w2 own own') := (Fr.below HB0.out own).trans ((Fr.below HIO.out.bel own).trans hf)
  clear hr hf k2 HK1 c0 c3 HRO HT
  go_wp2_with (go_at_call 56; refine (stay_all w2 w0.heap.size g nc cp ac cc cs HZ.out HRO2.out hcp1 hcp2 HHa2.out hl).mono ?_; rintro e w3 ⟨rfl, hb3⟩; have HB3 := hideL hb3; clear hb3)
  have HRO3 := hideL (own_blk' HRO2.out (fun q hq => HB3.out.block q (HRO2.out.lt q hq).2))
  have HOV : Hid (Ovi w3 w3 g nc) := by
    have h1 := HRO3.out
    rw [← List.map_append] at h1
    exact Ovi.start h1 nc (by omega)
  have HR2 := hideL (HR.out.below HB3.out)
  have HF2 := hideL (HF.out.trans (Fr.below HB3.out own'))
  have hgw : w.heap.size ≤ g := by omega
  have hnl : (nc : Int) ≤ 17592186043904 := by omega
  clear c5 HRO2 HR HF
  go_loopw [12] (fun t wr => ∃ i : Nat, t = .int .i64 i ∧ i ≤ nc ∧ Ovi w3 wr g nc) (fun t _ => nc - (intOf t).toNat)
  case atStart => exact ⟨0, rfl, by omega, HOV.out⟩
  case round =>
    obtain ⟨i, rfl, hi, hov⟩ := hrel
    have i0 : (0 : Int) ≤ i := by omega
    by_cases hin : i < nc
    · have hi2 : (i : Int) < nc := by omega
      obtain ⟨c, cur, hgc, hcu⟩ := hov.cel i hin
      have hci : wr.cell? ⟨g, i, none⟩ = some (.int .i64 c) := by rw [cell_block hgc]; exact hcu
      have hfi : wr.frozen? ⟨g, i, none⟩ = false := by simp [World.frozen?, hgc]
      have HP := hideL (fun x => Ovi.put (i := i) x hov)
      clear hov HOV hgc hcu
      go_wp2_with fail
      go_roundw
      case rel => exact ⟨i + 1, by go_num, by omega, HP.out _⟩
      case measure => simp [intOf]; omega
    · have hi2 : ¬ (i : Int) < nc := by omega
      have HR3 := hideL (rep_but HR2.out hov.but HNG.out)
      have HF3 := hideL (fr_but HF2.out hov.but hgw)
      clear hov HOV
      go_wp2
      refine bodyPost_ret (v := .tuple #[.int .i64 0, .bool true]) (by simp [results, Try.results28, go_sem]) rfl ?_
      exact ⟨0, true, s', own', rfl, HR3.out, HF3.out⟩
set_option maxHeartbeats 4000000 in
theorem does_arm {w : World} {base d : Nat} {s : DS} {N : Nat} {own : Nat → Prop} (h : Rep w base d s N own) (hN : N + 1 < 1000000) (nm to_ : ByteArray) (hs : nm.size ≤ maxLen) (hs2 : to_.size ≤ maxLen) (k : Int) (ad : Option Addr) (nd cd : Nat) (ac : Option Addr) (nc cc : Nat) (on : Bool) (cs : List Int) (hn : cs.length = nc) (hNm : Nums w ac cs) (hcr : ∀ c ∈ cs, -9223372036854775808 ≤ c ∧ c ≤ 9223372036854775807) (hbare : ac = none → cc = 0) (hca : ∀ x, ac = some x → 0 < nc → ¬ own x.block) (hl : nc ≤ 17592186043904) (hk : k ≤ 9223372036854775807) : Calls Try.prog 28 #[.pointer (some ⟨d, 0, none⟩), .agg #[.int .i64 8, .string nm, .string to_, .int .i64 k, .slice ad nd cd, .slice ac nc cc, .bool on]] w (DoesE w base d own (N + 1)) := by
  have b0 : Below w.heap.size w (w.alloc (.cells #[.int .i64 8, .string nm, .string to_, .int .i64 k, .slice ad nd cd, .slice ac nc cc, .bool on] 46 (0, 0))) := (Below.refl _ w).alloc (Nat.le_refl _) _
  have k0 := Go.heap_alloc_new w (.cells #[.int .i64 8, .string nm, .string to_, .int .i64 k, .slice ad nd cd, .slice ac nc cc, .bool on] 46 (0, 0))
  have HB0 := hideL b0
  have HH := hideL h
  have HZ := hideL hn
  have HA := hideL hNm
  have HQ := hideL hbare
  have HCR := hideL hcr
  go_enter Try.func28, Try.ntmps28
  go_wp2_with fail
  obtain ⟨w0, hw0⟩ : ∃ W, w.alloc (.cells #[.int .i64 8, .string nm, .string to_, .int .i64 k, .slice ad nd cd, .slice ac nc cc, .bool on] 46 (0, 0)) = W := ⟨_, rfl⟩
  rw [hw0] at HB0 k0 ⊢
  clear hw0 b0 h hn hNm hbare hcr
  refine (ints_all w0 ac nc cc cs HZ.out (HA.out.below HB0.out) HQ.out hl).mono ?_
  rintro e w1 ⟨g, cp, rfl, hrow, hcp1, hcp2, hio⟩
  have HRO := hideL hrow
  have HIO := hideL hio
  have k1 := (hio.bel.block _ (lt_of_block k0)).trans k0
  have c0 : w1.cell? ⟨w.heap.size, 0, none⟩ = some (.int .i64 8) := by rw [cell_block k1]; rfl
  have c3 : w1.cell? ⟨w.heap.size, 3, none⟩ = some (.int .i64 k) := by rw [cell_block k1]; rfl
  have hs0 := HB0.out.size
  have hs1 := hio.bel.size
  have hgl := hio.lt
  have hgn := hio.new
  have HK1 := hideL k1
  clear hrow hio k0 k1
  have hng : ¬ own g := fun h => by have := HH.out.lt h; omega
  have hnw : ¬ own w.heap.size := fun h => by have := HH.out.lt h; omega
  have HT := hideL (arm_tot ((HH.out.below HB0.out).below HIO.out.bel) hN k hk (some ⟨g, 0, none⟩) nc cp cs (chs_of HZ.out HIO.out.cells hgl hng HCR.out (by have := HZ.out; omega)))
  go_wp2_with fail
  refine Calls.mono HT.out ?_
  rintro e w2 ⟨rfl, s', own', hr, hf⟩
  have HNG : Hid (¬ own' g) := fun h => (hf.sub g h).elim hng (fun h => by omega)
  have HRO2 := hideL (own_blk' HRO.out (fun q hq => by cases hq; exact hf.block g hgl hng))
  have k2 := (hf.block _ (lt_of_block HK1.out) hnw).trans HK1.out
  have c5 : w2.cell? ⟨w.heap.size, 5, none⟩ = some (.slice ac nc cc) := by rw [cell_block k2]; rfl
  have HHa2 := hideL (((HA.out.below HB0.out).below HIO.out.bel).fr hf (fun x hx h0 => hca x hx (by rw [← HZ.out]; exact h0)))
  have HR := hideL hr
  have HF : Hid (Fr w w2 own own') := (Fr.below HB0.out own).trans ((Fr.below HIO.out.bel own).trans hf)
  clear hr hf k2 HK1 c0 c3 HRO HT
  go_wp2_with (go_at_call 56; refine (stay_all w2 w0.heap.size g nc cp ac cc cs HZ.out HRO2.out hcp1 hcp2 HHa2.out hl).mono ?_; rintro e w3 ⟨rfl, hb3⟩; have HB3 := hideL hb3; clear hb3)
  have HRO3 := hideL (own_blk' HRO2.out (fun q hq => HB3.out.block q (HRO2.out.lt q hq).2))
  have HOV : Hid (Ovi w3 w3 g nc) := by
    have h1 := HRO3.out
    rw [← List.map_append] at h1
    exact Ovi.start h1 nc (by omega)
  have HR2 := hideL (HR.out.below HB3.out)
  have HF2 := hideL (HF.out.trans (Fr.below HB3.out own'))
  have hgw : w.heap.size ≤ g := by omega
  have hnl : (nc : Int) ≤ 17592186043904 := by omega
  clear c5 HRO2 HR HF
  go_loopw [12] (fun t wr => ∃ i : Nat, t = .int .i64 i ∧ i ≤ nc ∧ Ovi w3 wr g nc) (fun t _ => nc - (intOf t).toNat)
  case atStart => exact ⟨0, rfl, by omega, HOV.out⟩
  case round =>
    obtain ⟨i, rfl, hi, hov⟩ := hrel
    have i0 : (0 : Int) ≤ i := by omega
    by_cases hin : i < nc
    · have hi2 : (i : Int) < nc := by omega
      obtain ⟨c, cur, hgc, hcu⟩ := hov.cel i hin
      have hci : wr.cell? ⟨g, i, none⟩ = some (.int .i64 c) := by rw [cell_block hgc]; exact hcu
      have hfi : wr.frozen? ⟨g, i, none⟩ = false := by simp [World.frozen?, hgc]
      have HP := hideL (fun x => Ovi.put (i := i) x hov)
      clear hov HOV hgc hcu
      go_wp2_with fail
      go_roundw
      case rel => exact ⟨i + 1, by go_num, by omega, HP.out _⟩
      case measure => simp [intOf]; omega
    · have hi2 : ¬ (i : Int) < nc := by omega
      have HR3 := hideL (rep_but HR2.out hov.but HNG.out)
      have HF3 := hideL (fr_but HF2.out hov.but hgw)
      clear hov HOV
      go_wp2
      refine bodyPost_ret (v := .tuple #[.int .i64 0, .bool true]) (by simp [results, Try.results28, go_sem]) rfl ?_
      exact ⟨0, true, s', own', rfl, HR3.out, HF3.out⟩

end Go.Proofs.Ytkmohpdcchpndaa

/-
  A script done at a disk.
-/
namespace Go.Proofs.Ytkmohpdcchpndaa
open Go.RowKit
set_option linter.unusedVariables false
set_option linter.unusedSimpArgs false
set_option maxRecDepth 100000
/-- a call of a script, with what it is handed -/
structure Oy where
  kd : Int
  nm : ByteArray
  tt : ByteArray
  nn : Int
  a : Option Addr
  n : Nat
  cap : Nat
  zs : List Int
  ca : Option Addr
  cn : Nat
  cc : Nat
  cs : List Int
  on : Bool
def Oy.row (o : Oy) : List Value := [.int .i64 o.kd, .string o.nm, .string o.tt, .int .i64 o.nn, .slice o.a o.n o.cap, .slice o.ca o.cn o.cc, .bool o.on]
/-- what holds of a call that came in, in memory below a line -/
structure Oin (W : World) (L : Nat) (o : Oy) : Prop where
  s1 : o.nm.size ≤ maxLen
  s2 : o.tt.size ≤ maxLen
  n0 : -9223372036854775808 ≤ o.nn
  n1 : o.nn ≤ 9223372036854775807
  len : o.zs.length = o.n
  has : Has W o.a o.zs
  oct : Octets o.zs
  bare : o.a = none → o.cap = 0
  low : ∀ x, o.a = some x → 0 < o.n → x.block < L
  big : o.n ≤ 140737488351232
  clen : o.cs.length = o.cn
  nums : Nums W o.ca o.cs
  crng : ∀ c ∈ o.cs, -9223372036854775808 ≤ c ∧ c ≤ 9223372036854775807
  cbare : o.ca = none → o.cc = 0
  clow : ∀ x, o.ca = some x → 0 < o.cn → x.block < L
  cbig : o.cn ≤ 17592186043904
theorem does_any {w : World} {base d : Nat} {s : DS} {N : Nat} {own : Nat → Prop} (h : Rep w base d s N own) (hN : N + 1 < 1000000) (o : Oy) (L : Nat) (ho : Oin w L o) (hlow : ∀ k, own k → L ≤ k) : Calls Try.prog 28 #[.pointer (some ⟨d, 0, none⟩), .agg o.row.toArray] w (DoesE w base d own (N + 1)) := by
  obtain ⟨kd, nm, tt, nn, a, n, cap, zs, ca, cn, cc, cs, on⟩ := o
  have hda : ∀ x, a = some x → 0 < n → ¬ own x.block := fun x hx h0 hk => by have := ho.low x hx h0; have := hlow _ hk; omega
  have hca : ∀ x, ca = some x → 0 < cn → ¬ own x.block := fun x hx h0 hk => by have := ho.clow x hx h0; have := hlow _ hk; omega
  show Calls Try.prog 28 #[.pointer (some ⟨d, 0, none⟩), .agg #[.int .i64 kd, .string nm, .string tt, .int .i64 nn, .slice a n cap, .slice ca cn cc, .bool on]] w _
  by_cases hk : kd < 0 ∨ 9 < kd
  · exact does_other h hN nm tt ho.s1 ho.s2 nn a n cap ca cn cc on kd hk
  · obtain ⟨q, rfl⟩ : ∃ q : Nat, kd = q := ⟨kd.toNat, by omega⟩
    have hq : q ≤ 9 := by omega
    match q, hq with
    | 0, _ => exact does_create h hN nm tt ho.s1 ho.s2 nn a n cap ca cn cc on
    | 1, _ => exact does_write h hN nm tt ho.s1 ho.s2 nn a n cap ca cn cc on zs ho.len ho.has ho.oct ho.bare hda ho.big
    | 2, _ => exact does_cut h hN nm tt ho.s1 ho.s2 nn a n cap ca cn cc on
    | 3, _ => exact does_sync h hN nm tt ho.s1 ho.s2 nn a n cap ca cn cc on
    | 4, _ => exact does_rename h hN nm tt ho.s1 ho.s2 nn a n cap ca cn cc on
    | 5, _ => exact does_remove h hN nm tt ho.s1 ho.s2 nn a n cap ca cn cc on
    | 6, _ => exact does_syncdir h hN nm tt ho.s1 ho.s2 nn a n cap ca cn cc on
    | 7, _ => exact does_crash h hN nm tt ho.s1 ho.s2 nn a n cap ca cn cc on cs ho.clen ho.nums ho.crng ho.cbare hca ho.cbig ho.n1
    | 8, _ => exact does_arm h hN nm tt ho.s1 ho.s2 nn a n cap ca cn cc on cs ho.clen ho.nums ho.crng ho.cbare hca ho.cbig ho.n1
    | 9, _ => exact does_up h hN nm tt ho.s1 ho.s2 nn a n cap ca cn cc on
theorem Oin.fr {w w' : World} {own own' : Nat → Prop} {L : Nat} {o : Oy} (h : Oin w L o) (hf : Fr w w' own own') (hlow : ∀ k, own k → L ≤ k) : Oin w' L o :=
  { h with
    has := h.has.fr hf (fun x hx h0 hk => by have := h.low x hx (by rw [← h.len]; exact h0); have := hlow _ hk; omega)
    nums := h.nums.fr hf (fun x hx h0 hk => by have := h.clow x hx (by rw [← h.clen]; exact h0); have := hlow _ hk; omega) }
/-- A script in memory. -/
structure Sin (W : World) (L : Nat) (a : Option Addr) (os : List Oy) : Prop where
  each : ∀ o ∈ os, Oin W L o
  row : os = [] ∨ ∃ g off, a = some ⟨g, off, none⟩ ∧ g < L ∧ ∀ (i : Nat) (o : Oy), os[i]? = some o → ∀ (j : Nat) (u : Value), o.row[j]? = some u → W.cell? ⟨g, off + i * 7 + j, none⟩ = some u
theorem Sin.fr {w w' : World} {own own' : Nat → Prop} {L : Nat} {a : Option Addr} {os : List Oy} (h : Sin w L a os) (hf : Fr w w' own own') (hlow : ∀ k, own k → L ≤ k) : Sin w' L a os := by
  refine ⟨fun o ho => (h.each o ho).fr hf hlow, ?_⟩
  rcases h.row with h0 | ⟨g, off, ha, hg, hc⟩
  · exact .inl h0
  · refine .inr ⟨g, off, ha, hg, fun i o hi j u hu => ?_⟩
    have hcj := hc i o hi j u hu
    exact (World.cell?_of_block (w := w) (a := ⟨g, off + i * 7 + j, none⟩) (hf.block _ (World.block_lt_of_cell? w _ hcj) (fun hk => by have := hlow _ hk; dsimp only at this; omega))).trans hcj
/-- A disk behind a script. -/
def MadeE (w : World) (e : Ending) (w' : World) : Prop := ∃ d s own, e = .returned (.pointer (some ⟨d, 0, none⟩)) ∧ Rep w' w.heap.size d s 120 own ∧ Below w.heap.size w w' ∧ (∀ k, own k → w.heap.size ≤ k)
set_option maxHeartbeats 4000000 in
theorem made_any (w : World) (room : Int) (a : Option Addr) (n cap : Nat) (os : List Oy) (hn : os.length = n) (hl : n ≤ 140737488351232) (hS : Sin w w.heap.size a os) (hr : room ≤ 9223372036854775807) :
    Calls Try.prog 8 #[.int .i64 room, .slice a n cap] w (MadeE w) := by
  have HS := hideL hS
  have HN := hideL hn
  clear hS hn
  go_enter Try.func8, Try.ntmps8
  go_wp2_with (go_at_call 17; refine (new_rep room w hr).mono ?_; rintro e w1 ⟨rfl, own1, hr1, hb1, ho1⟩; have HR1 := hideL hr1; have HB1 := hideL hb1; have HO1 := hideL ho1; clear hr1 hb1 ho1)
  have HS1 : Hid (Sin w1 w.heap.size a os) := HS.out.fr (Fr.below HB1.out own1) HO1.out
  go_loopw [6] (fun t wr => ∃ (i : Nat) (s : DS) (own : Nat → Prop), t = .int .i64 i ∧ i ≤ 120 ∧ i ≤ n ∧ Hid (Rep wr w.heap.size w.heap.size s i own) ∧ Hid (∀ k, own k → w.heap.size ≤ k) ∧ Hid (Below w.heap.size w wr) ∧ Hid (Sin wr w.heap.size a os)) (fun t _ => 120 - (intOf t).toNat)
  case atStart => exact ⟨0, _, own1, rfl, by omega, by omega, HR1, HO1, HB1, HS1⟩
  case round =>
    obtain ⟨i, s, own, rfl, hi, hin, HR, HO, HB, HSi⟩ := hrel
    clear HR1 HS1 HO1 HB1
    have i0 : (0 : Int) ≤ i := by omega
    by_cases h1 : i < n
    · have h1' : (i : Int) < n := by omega
      by_cases h2 : i < 120
      · have h2' : (i : Int) < 120 := by omega
        rcases hoi : os[i]? with _ | o
        · have := List.getElem?_eq_none_iff.1 hoi; have := HN.out; omega
        rcases HSi.out.row with h0 | ⟨g, off, rfl, hg, hc⟩
        · rw [h0] at hoi; simp at hoi
        have hD := does_any HR.out (by omega) o w.heap.size (HSi.out.each o (List.mem_of_getElem? hoi)) HO.out
        obtain ⟨kd, nm, tt, nn, oa, on_, ocap, zs, ca, cn, cc, cs, on⟩ := o
        have c0 := hc i _ hoi 0 _ rfl
        have c1 := hc i _ hoi 1 _ rfl
        have c2 := hc i _ hoi 2 _ rfl
        have c3 := hc i _ hoi 3 _ rfl
        have c4 := hc i _ hoi 4 _ rfl
        have c5 := hc i _ hoi 5 _ rfl
        have c6 := hc i _ hoi 6 _ rfl
        dsimp only at c0 c1 c2 c3 c4 c5 c6
        rw [Nat.add_zero] at c0
        have HD : Hid (Calls Try.prog 28 #[.pointer (some ⟨w.heap.size, 0, none⟩), .agg #[.int .i64 kd, .string nm, .string tt, .int .i64 nn, .slice oa on_ ocap, .slice ca cn cc, .bool on]] wr (DoesE wr w.heap.size w.heap.size own (i + 1))) := hD
        clear hD hc hoi
        go_wp2_with fail
        refine Calls.mono HD.out ?_
        rintro e w2 ⟨v, b, s', own', rfl, hr2, hf2⟩
        have HR2 := hideL hr2
        have HO2 : Hid (∀ k, own' k → w.heap.size ≤ k) := fun k hk => (hf2.sub k hk).elim (HO.out k) (fun h => Nat.le_trans HB.out.size h)
        have HS2 := hideL (HSi.out.fr hf2 HO.out)
        have HB2 : Hid (Below w.heap.size w w2) := HB.out.trans ⟨hf2.os, hf2.tape, hf2.output, hf2.size, fun k hk => hf2.block k (Nat.lt_of_lt_of_le hk HB.out.size) (fun h => by have := HO.out k h; omega)⟩
        clear hr2 hf2 HD HR HO HSi HB c0 c1 c2 c3 c4 c5 c6
        go_wp2_with fail
        go_roundw
        case rel => exact ⟨i + 1, s', own', by go_num, by omega, by omega, HR2, HO2, HB2, HS2⟩
        case measure => simp [intOf]; omega
      · have h2' : ¬ (i : Int) < 120 := by omega
        go_wp2
        go_ret
        exact ⟨_, s, own, rfl, HR.out.mono (by omega), HB.out, HO.out⟩
    · have h1' : ¬ (i : Int) < n := by omega
      go_wp2
      go_ret
      exact ⟨_, s, own, rfl, HR.out.mono (by omega), HB.out, HO.out⟩
end Go.Proofs.Ytkmohpdcchpndaa
