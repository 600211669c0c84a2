/-
  A resource copied.
-/
import Derived.Test.YtmljljpldljpjabCq
namespace Go.Proofs.Ytmljljpldljpjab
open Go.RowKit
set_option linter.unusedVariables false
set_option linter.unusedSimpArgs false
set_option maxRecDepth 100000
/-- a resource whose lists are rows of one's own -/
structure Ro (W : World) (base : Nat) (o : Rx) : Prop where
  e : W.ownsRow base 9 1 (.slice o.ea o.eps.length o.ec) o.eps.length (rowsOf strR o.eps)
  t : W.ownsRow base 46 3 (.slice o.ta o.tgs.length o.tc) o.tgs.length (rowsOf Tg.row o.tgs)
  r : W.ownsRow base 58 4 (.slice o.ra o.rus.length o.rc) o.rus.length (rowsOf Ru.row o.rus)
/-- what a resource may say -/
structure Rok (o : Rs) : Prop where
  k1 : -9223372036854775808 ≤ o.kd ∧ o.kd ≤ 9223372036854775807
  n1 : okS o.nm
  n2 : okS o.host
  n3 : okS o.route
  se : ∀ s ∈ o.eps, okS s
  st : ∀ t ∈ o.tgs, okS t.sv ∧ okS t.sp ∧ t.wt < 18446744073709551616
  sr : ∀ r ∈ o.rus, okS r.pa ∧ okS r.me ∧ okS r.sp
  le : o.eps.length ≤ 1048576
  lt : o.tgs.length ≤ 1048576
  lr : o.rus.length ≤ 1048576
theorem Rin.ok {W : World} {o : Rx} (h : Rin W o) : Rok o.toRs := ⟨h.k1, h.n1, h.n2, h.n3, h.se, h.st, h.sr, h.le, h.lt, h.lr⟩
theorem Ro.rin {W : World} {base : Nat} {o : Rx} (h : Ro W base o) (k : Rok o.toRs) : Rin W o :=
  ⟨own_cel strR 1 strR_len (by decide) h.e, own_cel Tg.row 3 tg_len (by decide) h.t, own_cel Ru.row 4 ru_len (by decide) h.r, k.k1, k.n1, k.n2, k.n3, k.se, k.st, k.sr, k.le, k.lt, k.lr⟩
theorem Ro.keep {W W' : World} {base : Nat} {o : Rx} (h : Ro W base o) (hk : ∀ k, (Value.slice o.ea o.eps.length o.ec).ownBlock = some k ∨ (Value.slice o.ta o.tgs.length o.tc).ownBlock = some k ∨ (Value.slice o.ra o.rus.length o.rc).ownBlock = some k → W'.heap[k]? = W.heap[k]?) : Ro W' base o :=
  ⟨own_blk' h.e (fun k e => hk k (.inl e)), own_blk' h.t (fun k e => hk k (.inr (.inl e))), own_blk' h.r (fun k e => hk k (.inr (.inr e)))⟩
theorem Ro.lt {W : World} {base : Nat} {o : Rx} (h : Ro W base o) {k : Nat} (hk : (Value.slice o.ea o.eps.length o.ec).ownBlock = some k ∨ (Value.slice o.ta o.tgs.length o.tc).ownBlock = some k ∨ (Value.slice o.ra o.rus.length o.rc).ownBlock = some k) : base ≤ k ∧ k < W.heap.size := by
  rcases hk with e | e | e
  · exact h.e.lt k e
  · exact h.t.lt k e
  · exact h.r.lt k e
theorem Ro.below {W W' : World} {base : Nat} {o : Rx} (h : Ro W base o) (hb : Below W.heap.size W W') : Ro W' base o := h.keep fun k hk => hb.block k (h.lt hk).2
theorem Ro.low {W : World} {base b' : Nat} {o : Rx} (h : Ro W base o) (hb : b' ≤ base) : Ro W b' o := ⟨own_low' h.e hb, own_low' h.t hb, own_low' h.r hb⟩
theorem own_stay {w w' : World} {base : Nat} {e : TypeId} {size : Nat} {v : Value} {n : Nat} {xs : List Value} (h : w.ownsRow base e size v n xs) (hb : Below w.heap.size w w') : w'.ownsRow base e size v n xs := own_blk' h (fun k hk => hb.block k (h.lt k hk).2)
theorem own_but {A B : World} {b : Nat} (hbut : But b A B) {base : Nat} {e : TypeId} {size : Nat} {v : Value} {n : Nat} {xs : List Value} (h : A.ownsRow base e size v n xs) {cs : Array Value} {t : TypeId} {fr : Nat × Nat} (hb : A.heap[b]? = some (.cells cs t fr)) (hne : t ≠ e) : B.ownsRow base e size v n xs :=
  own_blk' h (fun k hk => hbut.block k (h.lt k hk).2 (fun e' => by
    subst e'
    obtain ⟨c1, hc1⟩ := own_cells h k hk
    rw [hc1] at hb
    injection hb with hb
    injection hb with _ h3
    exact hne h3.symm))
set_option maxHeartbeats 16000000 in
theorem copyOf_any (w : World) (o : Rx) (h : Rin w o) : Calls Try.prog 33 #[o.val] w fun e w' => ∃ p : Rx, e = .returned p.val ∧ p.toRs = o.toRs ∧ Ro w' w.heap.size p ∧ Below w.heap.size w w' := by
  have HR := hideL h
  clear h
  obtain ⟨⟨kd, nm, eps, tgs, host, rus, route, del⟩, ea, ec, ta, tc, ra, rc⟩ := o
  have h1 : okS nm := HR.out.n1
  have h2 : okS host := HR.out.n2
  have h3 : okS route := HR.out.n3
  have HA := hideL (blk1 w (.cells #[.int .i64 kd, .string nm, .slice ea eps.length ec, .slice ta tgs.length tc, .string host, .slice ra rus.length rc, .string route, .bool del] 34 (0, 0)) (.cells #[.int .i64 0, .string ⟨#[]⟩, .slice none 0 0, .slice none 0 0, .string ⟨#[]⟩, .slice none 0 0, .string ⟨#[]⟩, .bool false] 34 (0, 0)))
  have HC := hideL (blk2 w (.cells #[.int .i64 kd, .string nm, .slice ea eps.length ec, .slice ta tgs.length tc, .string host, .slice ra rus.length rc, .string route, .bool del] 34 (0, 0)) (.cells #[.int .i64 0, .string ⟨#[]⟩, .slice none 0 0, .slice none 0 0, .string ⟨#[]⟩, .slice none 0 0, .string ⟨#[]⟩, .bool false] 34 (0, 0)))
  have HB0 := hideL (((Gr.alloc w (.cells #[.int .i64 kd, .string nm, .slice ea eps.length ec, .slice ta tgs.length tc, .string host, .slice ra rus.length rc, .string route, .bool del] 34 (0, 0))).trans (Gr.alloc _ (.cells #[.int .i64 0, .string ⟨#[]⟩, .slice none 0 0, .slice none 0 0, .string ⟨#[]⟩, .slice none 0 0, .string ⟨#[]⟩, .bool false] 34 (0, 0)))).below)
  have HSZ : Hid (((w.alloc (.cells #[.int .i64 kd, .string nm, .slice ea eps.length ec, .slice ta tgs.length tc, .string host, .slice ra rus.length rc, .string route, .bool del] 34 (0, 0))).alloc (.cells #[.int .i64 0, .string ⟨#[]⟩, .slice none 0 0, .slice none 0 0, .string ⟨#[]⟩, .slice none 0 0, .string ⟨#[]⟩, .bool false] 34 (0, 0))).heap.size = w.heap.size + 2) := by unfold Hid; simp
  have HES : Hid (∀ W, Below w.heap.size w W → Calls Try.prog 51 #[.slice ea eps.length ec, .func (.func 50) #[] #[]] W fun e w' => ∃ v, e = .returned v ∧ w'.ownsRow W.heap.size 9 1 v eps.length (rowsOf strR eps) ∧ Below W.heap.size W w') := fun W hW => copiesS_any W ea eps.length ec eps rfl HR.out.le (HR.out.es.below hW) HR.out.se
  have HTS : Hid (∀ W, Below w.heap.size w W → Calls Try.prog 52 #[.slice ta tgs.length tc, .func (.func 53) #[] #[]] W fun e w' => ∃ v, e = .returned v ∧ w'.ownsRow W.heap.size 46 3 v tgs.length (rowsOf Tg.row tgs) ∧ Below W.heap.size W w') := fun W hW => copiesT_any W ta tgs.length tc tgs rfl HR.out.lt (HR.out.ts.below hW) (fun s hs => ⟨(HR.out.st s hs).1, (HR.out.st s hs).2.1⟩)
  have HRS : Hid (∀ W, Below w.heap.size w W → Calls Try.prog 54 #[.slice ra rus.length rc, .func (.func 55) #[] #[]] W fun e w' => ∃ v, e = .returned v ∧ w'.ownsRow W.heap.size 58 4 v rus.length (rowsOf Ru.row rus) ∧ Below W.heap.size W w') := fun W hW => copiesR_any W ra rus.length rc rus rfl HR.out.lr (HR.out.rs.below hW) HR.out.sr
  have HPX : Hid (∀ (w' : World) (a1 a2 a3 : Option Addr) (p1 p2 p3 : Nat), w'.ownsRow w.heap.size 9 1 (.slice a1 eps.length p1) eps.length (rowsOf strR eps) → w'.ownsRow w.heap.size 46 3 (.slice a2 tgs.length p2) tgs.length (rowsOf Tg.row tgs) → w'.ownsRow w.heap.size 58 4 (.slice a3 rus.length p3) rus.length (rowsOf Ru.row rus) → Below w.heap.size w w' →
      ∃ p : Rx, Ending.returned (.agg #[.int .i64 kd, .string nm, .slice a1 eps.length p1, .slice a2 tgs.length p2, .string host, .slice a3 rus.length p3, .string route, .bool del]) = .returned p.val ∧ p.toRs = ⟨kd, nm, eps, tgs, host, rus, route, del⟩ ∧ Ro w' w.heap.size p ∧ Below w.heap.size w w') := fun w' a1 a2 a3 p1 p2 p3 o1 o2 o3 hb => ⟨⟨⟨kd, nm, eps, tgs, host, rus, route, del⟩, a1, p1, a2, p2, a3, p3⟩, rfl, rfl, ⟨o1, o2, o3⟩, hb⟩
  unfold Rx.val at *
  dsimp only
  clear HR
  generalize rowsOf strR eps = es at *
  generalize rowsOf Tg.row tgs = ts at *
  generalize rowsOf Ru.row rus = rs at *
  generalize eps.length = n1 at *
  generalize tgs.length = n2 at *
  generalize rus.length = n3 at *
  go_enter Try.func33, Try.ntmps33
  go_wp2_with fail
  generalize (w.alloc (.cells #[.int .i64 kd, .string nm, .slice ea n1 ec, .slice ta n2 tc, .string host, .slice ra n3 rc, .string route, .bool del] 34 (0, 0))).alloc (.cells #[.int .i64 0, .string ⟨#[]⟩, .slice none 0 0, .slice none 0 0, .string ⟨#[]⟩, .slice none 0 0, .string ⟨#[]⟩, .bool false] 34 (0, 0)) = wx at HA HC HB0 HSZ ⊢
  have HK := hideL (fun (W : World) (h : Below wx.heap.size wx W) => show (W.cell? ⟨w.heap.size, 0, none⟩ = some (.int .i64 kd) ∧ W.cell? ⟨w.heap.size, 1, none⟩ = some (.string nm) ∧ W.cell? ⟨w.heap.size, 2, none⟩ = some (.slice ea n1 ec) ∧ W.cell? ⟨w.heap.size, 3, none⟩ = some (.slice ta n2 tc) ∧ W.cell? ⟨w.heap.size, 4, none⟩ = some (.string host) ∧ W.cell? ⟨w.heap.size, 5, none⟩ = some (.slice ra n3 rc) ∧ W.cell? ⟨w.heap.size, 6, none⟩ = some (.string route) ∧ W.cell? ⟨w.heap.size, 7, none⟩ = some (.bool del)) from ⟨cell_of_below h ((cell_block HA.out 0).trans rfl), cell_of_below h ((cell_block HA.out 1).trans rfl), cell_of_below h ((cell_block HA.out 2).trans rfl), cell_of_below h ((cell_block HA.out 3).trans rfl), cell_of_below h ((cell_block HA.out 4).trans rfl), cell_of_below h ((cell_block HA.out 5).trans rfl), cell_of_below h ((cell_block HA.out 6).trans rfl), cell_of_below h ((cell_block HA.out 7).trans rfl)⟩)
  have HZ := hideL (fun (W : World) (h : Below wx.heap.size wx W) => (h.block (w.heap.size + 1) (by have := HSZ.out; omega)).trans HC.out)
  have HW := hideL (fun (W : World) (h : Below wx.heap.size wx W) => HB0.out.trans (h.mono HB0.out.size))
  obtain ⟨c0, c1, c2, c3, c4, c5, c6, c7⟩ := HK.out wx (Below.refl _ _)
  go_region_held3 (fun w' => w'.cell? ⟨w.heap.size, 0, none⟩ = some (.int .i64 kd) ∧ w'.cell? ⟨w.heap.size, 1, none⟩ = some (.string nm) ∧ w'.cell? ⟨w.heap.size, 2, none⟩ = some (.slice ea n1 ec) ∧ w'.cell? ⟨w.heap.size, 3, none⟩ = some (.slice ta n2 tc) ∧ w'.cell? ⟨w.heap.size, 4, none⟩ = some (.string host) ∧ w'.cell? ⟨w.heap.size, 5, none⟩ = some (.slice ra n3 rc) ∧ w'.cell? ⟨w.heap.size, 6, none⟩ = some (.string route) ∧ w'.cell? ⟨w.heap.size, 7, none⟩ = some (.bool del)) (go_keep)
    (first
      | (go_at_call 51; refine (HES.out _ (HW.out _ B1.out)).mono ?_; rintro e w2 ⟨v2, rfl, o2, hb⟩; obtain ⟨a2, p2, rfl, _⟩ := own_form o2; have B2 : Hid (Below wx.heap.size wx w2) := B1.out.trans (hb.mono B1.out.size); have O2 := hideL (own_low' o2 (HW.out _ B1.out).size); obtain ⟨c0, c1, c2, c3, c4, c5, c6, c7⟩ := HK.out w2 B2.out; clear hb o2)
      | (go_at_call 52; refine (HTS.out _ (HW.out _ B2.out)).mono ?_; rintro e w3 ⟨v3, rfl, o3, hb⟩; obtain ⟨a3, p3, rfl, _⟩ := own_form o3; have B3 : Hid (Below wx.heap.size wx w3) := B2.out.trans (hb.mono B2.out.size); have O3 := hideL (own_low' o3 (HW.out _ B2.out).size); replace O2 := hideL (own_stay O2.out hb); obtain ⟨c0, c1, c2, c3, c4, c5, c6, c7⟩ := HK.out w3 B3.out; clear hb o3)
      | (go_at_call 54; refine (HRS.out _ (HW.out _ B4.out)).mono ?_; rintro e w5 ⟨v5, rfl, o5, hb⟩; obtain ⟨a5, p5, rfl, _⟩ := own_form o5; have B5 : Hid (Below wx.heap.size wx w5) := B4.out.trans (hb.mono B4.out.size); have O5 := hideL (own_low' o5 (HW.out _ B4.out).size); replace O2 := hideL (own_stay O2.out hb); replace O3 := hideL (own_stay O3.out hb); obtain ⟨c0, c1, c2, c3, c4, c5, c6, c7⟩ := HK.out w5 B5.out; clear hb o5)
      | (go_at_call 50; refine (clone_any route _ h3).mono ?_; rintro e w6 ⟨rfl, hb⟩; have B6 : Hid (Below wx.heap.size wx w6) := B5.out.trans (hb.mono B5.out.size); replace O2 := hideL (own_stay O2.out hb); replace O3 := hideL (own_stay O3.out hb); replace O5 := hideL (own_stay O5.out hb); obtain ⟨c0, c1, c2, c3, c4, c5, c6, c7⟩ := HK.out w6 B6.out; obtain ⟨⟨f0, f1, f2, f3, f4, f5, f6, f7⟩, ⟨g0, g1, g2, g3, g4, g5, g6, g7⟩, ⟨k0, k1, k2, k3, k4, k5, k6, k7⟩, hbut, -⟩ := set8 (HZ.out w6 B6.out) (.int .i64 kd) (.string nm) (.slice a2 n1 p2) (.slice a3 n2 p3) (.string host) (.slice a5 n3 p5) (.string route) (.bool del); have HBT := hideL hbut; clear hb hbut)
      | (go_at_call 50; refine (clone_any host _ h2).mono ?_; rintro e w4 ⟨rfl, hb⟩; have B4 : Hid (Below wx.heap.size wx w4) := B3.out.trans (hb.mono B3.out.size); replace O2 := hideL (own_stay O2.out hb); replace O3 := hideL (own_stay O3.out hb); obtain ⟨c0, c1, c2, c3, c4, c5, c6, c7⟩ := HK.out w4 B4.out; clear hb)
      | (go_at_call 50; refine (clone_any nm _ h1).mono ?_; rintro e w1 ⟨rfl, hb⟩; have B1 : Hid (Below wx.heap.size wx w1) := (below_drewN (Below.refl _ wx) 1).trans hb; obtain ⟨c0, c1, c2, c3, c4, c5, c6, c7⟩ := HK.out w1 B1.out; clear hb))
  have HBE := hideL (HBT.out.belowW (HW.out _ B6.out) (Nat.le_succ _))
  have Z := HZ.out w6 B6.out
  have E2 := hideL (own_but HBT.out O2.out Z (by decide))
  have E3 := hideL (own_but HBT.out O3.out Z (by decide))
  have E5 := hideL (own_but HBT.out O5.out Z (by decide))
  clear HBT Z c0 c1 c2 c3 c4 c5 c6 c7 f0 f1 f2 f3 f4 f5 f6 f7 g0 g1 g2 g3 g4 g5 g6 g7
  go_wp2
  exact bodyPost_ret (v := .agg #[.int .i64 kd, .string nm, .slice a2 n1 p2, .slice a3 n2 p3, .string host, .slice a5 n3 p5, .string route, .bool del]) (by simp [results, Try.results33, go_sem, k0, k1, k2, k3, k4, k5, k6, k7]) rfl (HPX.out _ _ _ _ _ _ _ E2.out E3.out E5.out HBE.out)
end Go.Proofs.Ytmljljpldljpjab
