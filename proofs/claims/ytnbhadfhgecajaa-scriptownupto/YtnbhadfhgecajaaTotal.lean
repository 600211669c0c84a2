/-
  The walk of ScriptTotal.
-/
import Derived.Test.YtnbhadfhgecajaaAwake
import Derived.Deep.Cut
import Derived.Deep.DeepCutAuto
namespace Go.Proofs.Ytnbhadfhgecajaa
open Go.RowKit
set_option linter.unusedVariables false

/-- What a round reads of the two lists. -/
def Pair (W : World) (g1 g2 i j : Nat) (s t : St) : Prop :=
  (W.cell? ⟨g1, i * 4, none⟩ = some (.int .i64 s.op) ∧ W.cell? ⟨g1, i * 4 + 1, none⟩ = some (.int .i64 s.x) ∧ W.cell? ⟨g1, i * 4 + 2, none⟩ = some (.int .i64 s.y) ∧ W.cell? ⟨g1, i * 4 + 3, none⟩ = some s.d.val) ∧
  (W.cell? ⟨g2, j * 4, none⟩ = some (.int .i64 t.op) ∧ W.cell? ⟨g2, j * 4 + 1, none⟩ = some (.int .i64 t.x) ∧ W.cell? ⟨g2, j * 4 + 2, none⟩ = some (.int .i64 t.y) ∧ W.cell? ⟨g2, j * 4 + 3, none⟩ = some t.d.val)
theorem pair_of {W : World} {b1 b2 c1 c2 g1 g2 : Nat} {zs1 zs2 : List Int} {xs ys : List Told} (h1 : DL W b1 (some ⟨g1, 0, none⟩) c1 zs1 xs) (h2 : DL W b2 (some ⟨g2, 0, none⟩) c2 zs2 ys) (i j : Nat) (x y : Told) (hx : xs[i]? = some x) (hy : ys[j]? = some y) : Pair W g1 g2 i j x.s y.s :=
  ⟨⟨h1.cell i x hx 0 _ rfl, h1.cell i x hx 1 _ rfl, h1.cell i x hx 2 _ rfl, h1.cell i x hx 3 _ rfl⟩, h2.cell j y hy 0 _ rfl, h2.cell j y hy 1 _ rfl, h2.cell j y hy 2 _ rfl, h2.cell j y hy 3 _ rfl⟩
theorem has_drew {w : World} {a : Option Addr} {zs : List Int} (h : Has w a zs) : Has w.drew a zs := has_drewN h 1
theorem below_next {w wr w3 : World} (h : Below w.heap.size w wr) (hb : Below wr.drew.heap.size wr.drew w3) : Below w.heap.size w w3 := h.drew.trans (hb.mono h.drew.size)
theorem cell_next {wr w3 : World} {p : Addr} {u : Value} (hb : Below wr.drew.heap.size wr.drew w3) (h : wr.cell? p = some u) : w3.cell? p = some u :=
  (hb.cell (p := p) (World.block_lt_of_cell? wr _ h)).trans h
theorem pair_next {wr w3 : World} {p0 p1 p2 p3 r0 r1 r2 r3 : Addr} {u0 u1 u2 u3 v0 v1 v2 v3 : Value} (hb : Below wr.drew.heap.size wr.drew w3) (h0 : wr.cell? p0 = some u0) (h1 : wr.cell? p1 = some u1) (h2 : wr.cell? p2 = some u2) (h3 : wr.cell? p3 = some u3) (k0 : wr.cell? r0 = some v0) (k1 : wr.cell? r1 = some v1) (k2 : wr.cell? r2 = some v2) (k3 : wr.cell? r3 = some v3) :
    (w3.cell? p0 = some u0 ∧ w3.cell? p1 = some u1 ∧ w3.cell? p2 = some u2 ∧ w3.cell? p3 = some u3) ∧ w3.cell? r0 = some v0 ∧ w3.cell? r1 = some v1 ∧ w3.cell? r2 = some v2 ∧ w3.cell? r3 = some v3 :=
  ⟨⟨cell_next hb h0, cell_next hb h1, cell_next hb h2, cell_next hb h3⟩, cell_next hb k0, cell_next hb k1, cell_next hb k2, cell_next hb k3⟩
theorem formAll_octets (ss : List St) (h : ∀ s ∈ ss, MayBe s ∧ Octets s.d.zs ∧ s.d.n ≤ 65535) : Octets (formAll ss) := by
  induction ss with
  | nil => exact Octets.nil
  | cons s r ih =>
    have e : formAll (s :: r) = formOf s ++ formAll r := by simp [formAll]
    rw [e]
    refine Octets.append ?_ (ih (fun t ht => h t (by simp [ht])))
    obtain ⟨⟨h1, h2, h3, _⟩, h5, h6⟩ := h s (by simp)
    have o3 : Octets [s.op, s.x, s.y] := fun i => by rcases i with _ | _ | _ | i <;> simp <;> omega
    have o2 : Octets [(s.d.n : Int) % 256, (s.d.n : Int) / 256] := fun i => by rcases i with _ | _ | i <;> simp <;> omega
    unfold formOf
    split
    · exact o3.append (o2.append h5)
    · exact o3.append Octets.nil

theorem all_empty (zs : List Int) (xs : List Told) (h : AllOf zs 0 xs) : xs.length = 0 ↔ zs.length = 0 := by
  cases xs with
  | nil => have := h.2; simp [lastOf] at this; simp [this]
  | cons x r => have := h.1.1.1; simp; intro e; rw [e] at this; simp at this
theorem both_of {W : World} {b1 b2 c1 c2 g1 g2 : Nat} {zs1 zs2 : List Int} {xs ys : List Told} (hz : Octets zs1) (h1 : DL W b1 (some ⟨g1, 0, none⟩) c1 zs1 xs) (h2 : DL W b2 (some ⟨g2, 0, none⟩) c2 zs2 ys) (i j : Nat) (x y : Told) (hx : xs[i]? = some x) (hy : ys[j]? = some y) (hs : ssig x.s = ssig y.s) :
    ∃ (op x' y' : Int) (a1 a2 : Option Addr) (n d1 d2 : Nat) (zs : List Int), Pair W g1 g2 i j ⟨op, x', y', ⟨a1, n, d1, zs⟩⟩ ⟨op, x', y', ⟨a2, n, d2, zs⟩⟩ ∧ zs.length = n ∧ Has W a1 zs ∧ Has W a2 zs ∧ n ≤ 65535 := by
  have hp := pair_of h1 h2 i j x y hx hy
  have h3 := lies_has (h1.lies x (List.mem_of_getElem? hx))
  have h4 := lies_has (h2.lies y (List.mem_of_getElem? hy))
  obtain ⟨_, _, h5, h6⟩ := row_may hz xs 0 h1.all.1 x (List.mem_of_getElem? hx)
  obtain ⟨_, op, x', y', a1, n, d1, zs⟩ := x
  obtain ⟨_, op2, x2, y2, a2, n2, d2, zs2⟩ := y
  simp only [ssig, Prod.mk.injEq] at hs
  obtain ⟨rfl, rfl, rfl, rfl, rfl⟩ := hs
  exact ⟨_, _, _, _, _, _, _, _, _, hp, h5, h3, h4, h6⟩

set_option maxRecDepth 100000 in
set_option maxHeartbeats 4000000 in
theorem total_tail (n : Nat) (zs : List Int) (a : Option Addr) (cap : Nat) (w : World) (hP : Bs w a n cap zs) (hl : n ≤ 1048576) :
    Calls Try.prog 6 #[.slice a n cap] w fun e w' => e = .returned (.bool true) ∧ Below w.heap.size w w' := by
  obtain ⟨i0, hi, hz0, hz1, hz2⟩ := info_parts Try.info5
  go_enter Try.func6, Try.ntmps6
  go_wp2_with fail
  refine (awake_any _).mono ?_
  rintro e wA ⟨rfl, hbA⟩
  have PA := hP.below hbA
  have HPA : Hid (Bs wA a n cap zs) := PA
  go_upto_region 3 with fail
  go_cut [3] (fun v wc => ∃ (xs : List Told) (av : Option Addr) (cv : Nat), v = .slice av xs.length cv ∧ DL wc wA.heap.size av cv zs xs ∧ Below wA.heap.size wA wc)
  case first =>
    have b1 : Below wA.heap.size wA (wA.alloc (.cells #[] 5)) := (Below.refl _ wA).alloc (Nat.le_refl _) _
    have HO : Hid ((wA.alloc (.cells #[] 5)).ownsRow wA.heap.size 5 1 (.slice (some ⟨wA.heap.size, 0, none⟩) 0 0) 0 []) := World.ownsRow_lit wA _ 0 (Nat.le_refl _) (by decide) rfl
    have B1 : Hid (Below wA.heap.size wA (wA.alloc (.cells #[] 5))) := b1
    clear b1
    rcases PA.has with ⟨ha, hzs⟩ | ⟨x, ha, hx⟩
    · subst ha
      obtain rfl := PA.bare rfl
      subst hzs
      have hn0 : n = 0 := by have := PA.len; simpa using this.symm
      subst hn0
      go_wp2_with (at_builtin; refine wpList_append_own_none rfl (.tmp 10) (.tmp 11) 22 rfl wA.heap.size 5 i0 1 Try.underlying22 hi (.slice (some ⟨wA.heap.size, 0, none⟩) 0 0) 0 [] rfl HO.out rfl ?_)
      refine (decode_dl (some ⟨wA.heap.size, 0, none⟩) 0 0 [] _ ⟨rfl, .inr ⟨_, rfl, fun j hj => by simp at hj⟩, Octets.nil, (fun h => by cases h), Nat.le_refl _, by decide, by decide⟩ (by decide)).mono ?_
      rintro e w1 ⟨xs, av, cv, rfl, hD, hb1⟩
      have HD : Hid (DL w1 wA.heap.size av cv [] xs) := ⟨hD.all, own_low' hD.own (by simp), fun x hx => own_base (hD.lies x hx) (by simp)⟩
      have HB : Hid (Below wA.heap.size wA w1) := B1.out.trans (hb1.mono B1.out.size)
      clear hD hb1
      go_wp2_with fail
      go_meet
      case rel => exact ⟨xs, av, cv, rfl, HD.out, HB.out⟩
    · subst ha
      have HN : Hid (zs.length = n) := PA.len
      have N1 : Hid (∀ j u, (vals zs)[j]? = some u → (wA.alloc (.cells #[] 5)).cell? (x.add j) = some u) := has_news PA.has B1.out
      go_wp2_with (at_builtin; refine wpList_append_own _ rfl (.tmp 10) (.tmp 11) 22 rfl wA.heap.size 5 i0 (.int .u8 0) 1 1 Try.underlying22 hi hz0 hz1 hz2 rfl (by decide) (.slice (some ⟨wA.heap.size, 0, none⟩) 0 0) 0 [] rfl HO.out x n cap (vals zs) rfl (by rw [vals_length, HN.out]; omega) N1.out (vals_one _) (by unfold maxLen; omega) (by omega) (by simp) ?_; intro v1 w1 hown1 hgrow1 _; have B2 : Hid (Below wA.heap.size wA w1) := B1.out.grown hgrow1 B1.out.size (fun k h => by simp [Value.ownBlock] at h; omega); rw [Nat.zero_add, List.nil_append] at hown1; obtain ⟨a1, c1, hv1, hB1⟩ := own_bs hown1 HPA.out.oct (by omega); subst hv1; clear hgrow1)
      refine (decode_dl a1 n c1 zs _ hB1 (by omega)).mono ?_
      rintro e w2 ⟨xs, av, cv, rfl, hD, hb2⟩
      have HD : Hid (DL w2 wA.heap.size av cv zs xs) := ⟨hD.all, own_low' hD.own B2.out.size, fun x hx => own_base (hD.lies x hx) B2.out.size⟩
      have HB : Hid (Below wA.heap.size wA w2) := B2.out.trans (hb2.mono B2.out.size)
      clear hD hb2 hown1 hB1
      go_wp2_with fail
      go_meet
      case rel => exact ⟨xs, av, cv, rfl, HD.out, HB.out⟩
  case rest =>
    obtain ⟨xs, av, cv, rfl, hD, hbc⟩ := hcut
    have hlen := PA.len
    have hae := all_empty zs xs hD.all
    rw [hlen] at hae
    have hmay := row_may PA.oct xs 0 hD.all.1
    have hsum : ((xs.map (·.s)).map fun s => 5 + s.d.n).sum ≤ 5242880 := by
      have := row_sum zs xs 0 hD.all.1
      omega
    have hLS := hD.ls PA.oct
    have hBc : Below w.heap.size w wc := hbA.trans (hbc.mono hbA.size)
    obtain ⟨ss, hss⟩ : ∃ ss, xs.map (·.s) = ss := ⟨_, rfl⟩
    have hmay2 : ∀ s ∈ ss, MayBe s ∧ Octets s.d.zs ∧ s.d.zs.length = s.d.n ∧ s.d.n ≤ 65535 := by
      rw [← hss]; intro s h
      obtain ⟨x, hx, rfl⟩ := List.mem_map.1 h
      exact hmay x hx
    rw [hss] at hsum hLS
    have hssl : ss.length = xs.length := by rw [← hss]; simp
    have HSig : Hid (ss.map ssig = xs.map (fun x => ssig x.s)) := by show _ = _; rw [← hss]; simp
    obtain ⟨N, hN⟩ : ∃ N, xs.length = N := ⟨_, rfl⟩
    have HN : Hid (xs.length = N) := hN
    have HSl : Hid (ss.length = N) := hssl.trans hN
    have HD : Hid (DL wc wA.heap.size av cv zs xs) := hD
    have HOz : Hid (Octets zs) := PA.oct
    rw [hN] at hae ⊢
    clear hss hmay hssl hN hD
    go_wp2_with fail
    refine (encode_any av N cv ss _ HSl.out hLS (by omega)).mono ?_
    rintro e w1 ⟨hb1, hE⟩
    obtain ⟨v1, rfl, hown1⟩ : ∃ v, e = .returned (.tuple #[v, .int .i64 0]) ∧ w1.ownsRow wc.heap.size 5 1 v (formAll ss).length (vals (formAll ss)) := by
      rcases hE with ⟨_, v, h1, h2⟩ | ⟨⟨s, h1, h2⟩, _⟩
      · exact ⟨v, h1, h2⟩
      · exact absurd (hmay2 s h1).1 h2
    clear hE
    have hFo : Octets (formAll ss) := formAll_octets ss (fun s h => ⟨(hmay2 s h).1, (hmay2 s h).2.1, (hmay2 s h).2.2.2⟩)
    have hFl : (formAll ss).length ≤ 5242880 := by
      have := formAll_small ss (fun s h => (hmay2 s h).2.2.1) ss.length
      rw [List.take_length] at this; omega
    obtain ⟨a1, c1, rfl, hB1⟩ := own_bs hown1 hFo (by omega)
    have HB1 : Hid (Bs w1 a1 (formAll ss).length c1 (formAll ss)) := hB1
    have HD1 : Hid (DL w1 wA.heap.size av cv zs xs) := HD.out.below hb1
    have Bw1 : Below w.heap.size w w1 := hBc.trans (hb1.mono hBc.size)
    obtain ⟨L, hL⟩ : ∃ L, (formAll ss).length = L := ⟨_, rfl⟩
    rw [hL] at hFl HB1 ⊢
    have hcase : (n = 0 ∧ N = 0) ∨ (¬ n = 0 ∧ ¬ N = 0) := by omega
    clear hL hown1 hB1 hb1 HD hLS hae
    have key : ∀ (ys : List Told), AllOf (formAll ss) 0 ys → ys.map (fun x => ssig x.s) = xs.map (fun x => ssig x.s) := fun ys hy => by
      have := back ss ys [] (formAll ss) [] 0 (fun s h => ⟨(hmay2 s h).1, (hmay2 s h).2.2.1⟩) (by simp) hy ⟨trivial, by simp [lastOf]⟩
      rw [this, HSig.out]; simp
    have HK : Hid (∀ (ys : List Told), AllOf (formAll ss) 0 ys → ys.map (fun x => ssig x.s) = xs.map (fun x => ssig x.s)) := key
    clear key hmay2 hsum
    have hcase2 : (n = 0 ∧ N = 0) ∨ (((N : Int) == 0) = false ∧ ((n : Int) == 0) = false) := by
      rcases hcase with h | ⟨h1, h2⟩
      · exact .inl h
      · exact .inr ⟨beq_eq_false_iff_ne.2 (by omega), beq_eq_false_iff_ne.2 (by omega)⟩
    clear hcase
    rcases hcase2 with ⟨rfl, rfl⟩ | ⟨hn0, hN0⟩
    all_goals
      go_wp2_with fail
      refine (decode_dl a1 L c1 (formAll ss) _ HB1.out (by omega)).mono ?_
      rintro e w2 ⟨ys, am, cm, rfl, hD2, hb2⟩
      have hyl : ys.length = xs.length := by have := congrArg List.length (HK.out ys hD2.all); simpa using this
      rw [hyl, HN.out]
      have HD2 : Hid (DL w2 w1.heap.size am cm (formAll ss) ys) := hD2
      have HD1' : Hid (DL w2 wA.heap.size av cv zs xs) := HD1.out.below hb2
      have Bw2 : Below w.heap.size w w2 := Bw1.trans (hb2.mono Bw1.size)
      have HYS : Hid (ys.map (fun x => ssig x.s) = xs.map (fun x => ssig x.s)) := HK.out ys hD2.all
      clear hD2 hb2 hyl
      go_wp2_with fail
    · refine wp_loop_rounds 1 ?_
      rw [rounds_succ]
      go_wp2
      go_ret
      exact ⟨rfl, Bw2⟩
    · have hNp : 0 < N := by have := beq_eq_false_iff_ne.1 hn0; omega
      have hNl : N ≤ 1048576 := by
        have h1 := HN.out
        have h2 := row_sum zs xs 0 HD1'.out.all.1
        have h3 : xs.length ≤ ((xs.map (·.s)).map fun s => 5 + s.d.n).sum := by
          have : ∀ l : List St, l.length ≤ (l.map fun s => 5 + s.d.n).sum := by
            intro l
            induction l with
            | nil => simp
            | cons x r ih => simp; omega
          have := this (xs.map (·.s)); simpa using this
        have h4 : 5 * xs.length ≤ ((xs.map (·.s)).map fun s => 5 + s.d.n).sum := by
          have : ∀ l : List St, 5 * l.length ≤ (l.map fun s => 5 + s.d.n).sum := by
            intro l
            induction l with
            | nil => simp
            | cons x r ih => simp; omega
          have := this (xs.map (·.s)); simpa using this
        omega
      obtain ⟨g1, rfl⟩ := HD1'.out.some (by have := HN.out; omega)
      have hyl : ys.length = N := by have := congrArg List.length HYS.out; simp at this; rw [this]; exact HN.out
      obtain ⟨g2, rfl⟩ := HD2.out.some (by omega)
      have HYL : Hid (ys.length = N) := hyl
      clear hn0 hN0 hyl
      go_loopw [7] (fun t W => ∃ i : Nat, i ≤ N ∧ t = .int .i64 i ∧ Below w2.heap.size w2 W) (fun t _ => N - (intOf t).toNat)
      case atStart => exact ⟨0, by omega, rfl, Below.refl _ _⟩
      case round =>
        obtain ⟨i, hi', rfl, hBW⟩ := hrel
        by_cases hik : i < N
        · obtain ⟨x, hx⟩ : ∃ x, xs[i]? = some x := ⟨xs[i]'(by have := HN.out; omega), List.getElem?_eq_getElem _⟩
          obtain ⟨y, hy⟩ : ∃ y, ys[i]? = some y := ⟨ys[i]'(by have := HYL.out; omega), List.getElem?_eq_getElem _⟩
          have hsig : ssig x.s = ssig y.s := by
            have := congrArg (·[i]?) HYS.out
            simpa [hx, hy] using this.symm
          obtain ⟨op, x', y', a1', a2', dn, d1, d2, dz, hP2, hl1, hh1, hh2, hn2⟩ := both_of HOz.out (HD1'.out.below hBW) (HD2.out.below hBW) i i x y hx hy hsig
          obtain ⟨⟨m0, m1, m2, m3⟩, q0, q1, q2, q3⟩ := hP2
          dsimp only [Sl.val] at m0 m1 m2 m3 q0 q1 q2 q3
          have HH1 : Hid (Has wr a1' dz) := hh1
          have HH2 : Hid (Has wr a2' dz) := hh2
          have HL1 : Hid (dz.length = dn) := hl1
          have i0' : (0 : Int) ≤ i := by omega
          have i1' : (i : Int) < N := by omega
          clear hh1 hh2 hl1 hx hy hsig
          go_wp2_with fail
          go_region_held3 (fun w' => w'.cell? ⟨g1, i * 4, none⟩ = some (.int .i64 op) ∧ w'.cell? ⟨g1, i * 4 + 1, none⟩ = some (.int .i64 x') ∧ w'.cell? ⟨g1, i * 4 + 2, none⟩ = some (.int .i64 y') ∧ w'.cell? ⟨g1, i * 4 + 3, none⟩ = some (.slice a1' dn d1) ∧ w'.cell? ⟨g2, i * 4, none⟩ = some (.int .i64 op) ∧ w'.cell? ⟨g2, i * 4 + 1, none⟩ = some (.int .i64 x') ∧ w'.cell? ⟨g2, i * 4 + 2, none⟩ = some (.int .i64 y') ∧ w'.cell? ⟨g2, i * 4 + 3, none⟩ = some (.slice a2' dn d2)) (go_keep)
            (first | (go_at_call 23; refine (both_any op x' y' a1' a2' dn d1 d2 dz _ HL1.out (has_drew HH1.out) (has_drew HH2.out) (by omega)).mono ?_; rintro e w3 ⟨rfl, hb3⟩; have HB3 : Hid (Below w2.heap.size w2 w3) := (below_next hBW hb3); obtain ⟨⟨k0', k1', k2', k3'⟩, l0, l1, l2, l3⟩ := pair_next hb3 m0 m1 m2 m3 q0 q1 q2 q3; clear hb3))
          go_wp2
          go_roundw
          case rel => exact ⟨i + 1, by omega, by go_num, HB3.out⟩
          case measure => simp [intOf]; omega
        · go_wp2
          go_ret
          exact ⟨rfl, Bw2.trans (hBW.mono Bw2.size)⟩
end Go.Proofs.Ytnbhadfhgecajaa
