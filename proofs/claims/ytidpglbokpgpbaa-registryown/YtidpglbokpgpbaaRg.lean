/- An endpoint's state as it goes on; a view that becomes another. -/
import Derived.Test.YtidpglbokpgpbaaRe
namespace Go.Proofs.Ytidpglbokpgpbaa
open Go.RowKit
set_option linter.unusedVariables false
set_option linter.unusedSimpArgs false
set_option maxRecDepth 100000
theorem Rr.fs {W : World} {base b n : Nat} {r : Rg} (h : Rr W base b n r) : W.cell? ⟨b, 4, none⟩ = some (.int .i64 (nowI r.fr.up)) ∧ W.cell? ⟨b, 5, none⟩ = some (.int .i64 (-r.fr.fall)) ∧ W.cell? ⟨b, 6, none⟩ = some (.int .i64 r.fr.rise) ∧ W.cell? ⟨b, 7, none⟩ = some (.int .i64 r.fr.row) ∧ W.cell? ⟨b, 8, none⟩ = some (.int .i64 r.fr.turns) ∧ W.cell? ⟨b, 9, none⟩ = some (.float .f64 r.fr.took) ∧ W.cell? ⟨b, 10, none⟩ = some (.int .i64 r.fr.timed) := by
  have h := h.blk
  refine ⟨?_, ?_, ?_, ?_, ?_, ?_, ?_⟩ <;> (simp [World.cell?, h]; rfl)
theorem fresh_any (w : World) (base b n : Nat) (r : Rg) (h : Rr w base b n r) : Calls Try.prog 47 #[.pointer (some ⟨b, 4, none⟩)] w fun e w' => e = .returned (.pointer (some ⟨w.heap.size, 0, none⟩)) ∧ Hs w' w.heap.size r.fr ∧ Below w.heap.size w w' := by
  obtain ⟨c0, c1, c2, c3, c4, c5, c6⟩ := h.fs
  unfold Hs
  have e : r.fr.cells = cel (nowI r.fr.up) (-r.fr.fall) r.fr.rise r.fr.row r.fr.turns r.fr.took r.fr.timed := rfl
  rw [e]
  generalize nowI r.fr.up = x0 at *
  generalize -r.fr.fall = x1 at *
  generalize r.fr.rise = x2 at *
  generalize r.fr.row = x3 at *
  generalize (r.fr.turns : Int) = x4 at *
  generalize r.fr.took = x5 at *
  generalize (r.fr.timed : Int) = x6 at *
  clear h e
  have st := st_float
  go_enter Try.func47, Try.ntmps47
  go_wp2_with fail
  go_ret
  refine ⟨rfl, ?_, (Below.refl _ _).alloc (Nat.le_refl _) _⟩
  rw [Go.heap_alloc_new]
  rfl
/-- where a state goes on -/
def goP (w w' : World) (r : Rg) (k : ByteArray) (q : Nat) : Prop := (r.pl k = some q ∧ w' = w) ∨ (r.pl k = none ∧ q = w.heap.size ∧ Hs w' q r.fr ∧ Below w.heap.size w w')
theorem goP.below {w w' : World} {r : Rg} {k : ByteArray} {q : Nat} (h : goP w w' r k q) : Below w.heap.size w w' := by
  rcases h with ⟨_, rfl⟩ | ⟨_, _, _, h⟩
  · exact Below.refl _ _
  · exact h
theorem goingOn_any (w : World) (base b n : Nat) (r : Rg) (h : Rr w base b n r) (k : ByteArray) (hk : okS k) :
    Calls Try.prog 33 #[.pointer (some ⟨b, 0, none⟩), .string k] w fun e w' => ∃ q, e = .returned (.pointer (some ⟨q, 0, none⟩)) ∧ goP w w' r k q := by
  have h1 := state_any w base b n r h k hk
  rcases hp : r.pl k with _ | p
  · have h2 := fresh_any w base b n r h
    rw [hp] at h1
    unfold ptrO at h1
    simp only [Option.map_none] at h1
    have HP := hideL hp
    clear h hp
    go_enter Try.func33, Try.ntmps33
    go_wp2_with (first
      | (go_at_call 22; refine h1.mono ?_; rintro e w' ⟨rfl, rfl⟩)
      | (go_at_call 47; refine h2.mono ?_; rintro e w' ⟨rfl, hs, hb⟩; have HS := hideL hs; have HB := hideL hb; clear hs hb))
    go_ret
    exact ⟨_, rfl, .inr ⟨HP.out, rfl, HS.out, HB.out⟩⟩
  · rw [hp] at h1
    unfold ptrO at h1
    simp only [Option.map_some] at h1
    have HP := hideL hp
    clear h hp
    go_enter Try.func33, Try.ntmps33
    go_wp2_with (first
      | (go_at_call 22; refine h1.mono ?_; rintro e w' ⟨rfl, rfl⟩))
    go_ret
    exact ⟨_, rfl, .inl ⟨HP.out, rfl⟩⟩
theorem Ok.mono {s : St} {n m : Nat} (h : Ok s n) (hn : n ≤ m) : Ok s m :=
  ⟨h.f1, h.r1, h.u1, h.d1, ⟨by have := h.row.1; omega, by have := h.row.2; omega⟩, Nat.le_trans h.turns hn, h.took, Nat.le_trans h.timed hn⟩
theorem Rr.mono {W : World} {base b n m : Nat} {r : Rg} (h : Rr W base b n r) (hn : n ≤ m) : Rr W base b m r :=
  ⟨h.blk, h.lo, h.vw, h.ss, h.mp, fun k p e => ⟨(h.sts k p e).1, (h.sts k p e).2.1, (h.sts k p e).2.2.mono hn⟩, h.fr, Nat.le_trans h.ep hn, h.cnt, h.inj⟩
theorem Rr.one {W : World} {base b n : Nat} {r : Rg} (h : Rr W base b n r) : ∀ k ∈ [b], ∃ cs t fr, W.heap[k]? = some (.cells cs t fr) ∧ t ≠ 9 ∧ t ≠ 47 ∧ t ≠ 78 ∧ t ≠ 57 := by
  intro k hk
  simp at hk; subst hk
  exact ⟨_, _, _, h.blk, by decide, by decide, by decide, by decide⟩
/-- the registry's own block turned, the rest stays -/
theorem Rr.turn {w w' : World} {base b n : Nat} {r : Rg} (h : Rr w base b n r) (g : Stp w w' [b] [b]) (r' : Rg) (hb : w'.heap[b]? = some (.cells r'.cells 63 (0, 0)))
    (hvw : Ov w' base 47 (.slice r'.va r'.vw.length r'.vc) r'.vw) (hss : Ov w' base 78 (.slice r'.sa r'.ss.length r'.sc) r'.ss) (m : Nat) (hn : n ≤ m) (hep : r'.ep ≤ m)
    (e1 : r'.mo = r.mo) (e2 : r'.N = r.N) (e3 : r'.pl = r.pl) (e4 : r'.sf = r.sf) (e5 : r'.fr = r.fr) : Rr w' base b m r' := by
  refine ⟨hb, h.lo, hvw, hss, ?_, fun k p e => ?_, e5 ▸ h.fr, hep, e2 ▸ h.cnt, e3 ▸ h.inj⟩
  · rw [e1, e2, e3]
    exact h.mp.stp g (fun k hk => by obtain ⟨cs, t, fr, e, _⟩ := h.one k hk; exact ⟨cs, t, fr, e⟩)
  · rw [e3] at e
    obtain ⟨h1, h2, h3⟩ := h.sts k p e
    rw [e4]
    refine ⟨h1, h2.stp g (fun hm => ?_), h3.mono hn⟩
    simp at hm; subst hm
    have := h.blk
    rw [h2] at this
    injection this with this
    injection this with _ this
    cases this
theorem Stp.two (W : World) (b : Nat) (x y : Value) : Stp W ((W.setCell ⟨b, 0, none⟩ x).setCell ⟨b, 1, none⟩ y) [b] [b] := (Stp.set b 0 x (List.mem_singleton.2 rfl)).trans (Stp.set b 1 y (List.mem_singleton.2 rfl))
def BecE (r : Rg) (a : Option Addr) (c : Nat) (os : List Hx) (r' : Rg) : Prop := (sayL r.vw = sayL os ∧ r' = r) ∨ (sayL r.vw ≠ sayL os ∧ r' = { r with vw := os, va := a, vc := c, ep := r.ep + 1 })
set_option maxHeartbeats 4000000 in
theorem become_any (w : World) (base b n : Nat) (r : Rg) (h : Rr w base b n r) (hn : n ≤ 1000000000) (a : Option Addr) (m c : Nat) (os : List Hx) (hm : os.length = m) (ho : Ov w base 47 (.slice a m c) os) :
    Calls Try.prog 35 #[.pointer (some ⟨b, 0, none⟩), .slice a m c] w fun e w' => e = .returned (.tuple #[]) ∧ ∃ r', BecE r a c os r' ∧ Rr w' base b (n + 1) r' ∧ Stp w w' [b] [b] := by
  obtain ⟨c0, c1, c2, c3⟩ := h.cs
  have z := h.froz
  have HH := hideL h
  have HO := hideL ho
  have HM := hideL hm
  obtain ⟨l, hl⟩ : ∃ l, r.vw.length = l := ⟨_, rfl⟩
  have hv : Ov w base 47 (.slice r.va l r.vc) r.vw := hl ▸ h.vw
  have h1 := equalF_any w base base 47 47 r.va a l m r.vc c r.vw os hl hm hv ho
  have hep := h.ep
  obtain ⟨ep, hee⟩ : ∃ e : Int, (r.ep : Int) = e := ⟨_, rfl⟩
  have HE := hideL hee
  have hep2 : 0 ≤ ep ∧ ep ≤ 1000000000 := by omega
  rw [hl] at c0
  rw [hee] at c1
  have HL := hideL hl
  clear h ho hm c2 c3 hv hep hee hl
  go_enter Try.func35, Try.ntmps35
  go_wp2_with (go_at_call 48; refine h1.mono ?_; rintro e w2 ⟨⟨t, rfl, ht⟩, hg⟩; have HT := hideL ht; have HG := hideL hg; have H2 := hideL (HH.out.below hg.below); replace c1 := cell_of_below hg.below c1; replace c0 := cell_of_below hg.below c0; have z2 := H2.out.froz; clear ht hg h1 z; cases t)
  · have hne : ¬ sayL r.vw = sayL os := fun e => Bool.noConfusion (HT.out.2 e)
    go_end0
    refine ⟨rfl, { r with vw := os, va := a, vc := c, ep := r.ep + 1 }, .inr ⟨hne, rfl⟩, ?_, ?_⟩
    · refine H2.out.turn (Stp.two w2 b _ _) _ ?_ ?_ ?_ (n + 1) (by omega) (by show r.ep + 1 ≤ n + 1; have := H2.out.ep; omega) rfl rfl rfl rfl rfl
      · rw [set_blk (set_blk H2.out.blk 0 _) 1 _, ← HE.out, ← HM.out]
        rfl
      · show Ov _ base 47 (.slice a os.length c) os
        rw [HM.out]
        exact (HO.out.below HG.out.below).stp (Stp.two w2 b _ _) (fun k hk => by obtain ⟨cs, t, fr, e, e1, e2, _⟩ := H2.out.one k hk; exact ⟨cs, t, fr, e, e1, e2⟩)
      · exact H2.out.ss.stp (Stp.two w2 b _ _) (fun k hk => by obtain ⟨cs, t, fr, e, e1, _, e2, _⟩ := H2.out.one k hk; exact ⟨cs, t, fr, e, e1, e2⟩)
    · exact (Stp.of_below [b] HG.out.below).trans (Stp.two w2 b _ _)
  · have he : sayL r.vw = sayL os := HT.out.1 trivial
    refine bodyPost_ret (results_none rfl _ _ _) rfl ?_
    exact ⟨rfl, r, .inl ⟨he, rfl⟩, H2.out.mono (by omega), Stp.of_below [b] HG.out.below⟩
end Go.Proofs.Ytidpglbokpgpbaa
