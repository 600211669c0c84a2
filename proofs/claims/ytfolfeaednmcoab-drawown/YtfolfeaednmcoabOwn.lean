/-
  The walk of DrawOwn.
-/
import Derived.Test.YtfolfeaednmcoabGrown
import Derived.Deep.Cut
import Derived.Deep.DeepCutAuto
namespace Go.Proofs.Ytfolfeaednmcoab
open Go.RowKit Ieee
set_option linter.unusedVariables false
set_option linter.unusedSimpArgs false
theorem Try.info22 : (Try.prog.info? 22).map (fun i => (i.zero, i.size, i.bytes)) = some (some (.slice none 0 0), 1, 24) := by kernel_rfl
def Marks (j : Nat) (s : Fs) (m : Nat) : Prop := ∀ k, k < m → s.zs.getD k 0 = nkr j
def Filled (i : Nat) (ss : List Fs) : Prop := ∀ (j : Nat) (s : Fs), j < i → ss[j]? = some s → Marks j s s.n
def Sizes (ss : List Fs) : Prop := ∀ s ∈ ss, s.n ≤ 17592186043904
theorem marks_fin : ∀ j : Nat, j < 3 → rg (floatOfInt .f64 (-(j : Int) - 1)) < INF ∧ rg (floatOfInt .f64 (100 + (j : Int))) < INF := by decide +kernel
theorem mark_same (j : Nat) (h : j < 3) : (FloatKind.f64.format.order (floatOfInt .f64 (-(j : Int) - 1)) (floatOfInt .f64 (-(j : Int) - 1)) != some .eq) = false ∧ (FloatKind.f64.format.order (floatOfInt .f64 (100 + (j : Int))) (floatOfInt .f64 (100 + (j : Int))) != some .eq) = false := by
  obtain ⟨h1, h2⟩ := marks_fin j h
  constructor
  · show (double.order _ _ != some .eq) = false
    rw [order_self h1]; rfl
  · show (double.order _ _ != some .eq) = false
    rw [order_self h2]; rfl
theorem cum_row (a : Option Addr) (n cap : Nat) (zs : List Nat) (w : World) (hF : Fl w a n zs) (hcap : n ≤ cap) (hc2 : cap ≤ maxLen) :
    Calls Try.prog 5 #[.slice a n cap] w fun e w' => ∃ (s : Fs) (er : Int), e = .returned (.tuple #[.slice s.a s.n s.cap, .int .i64 er]) ∧ RowOf w' w.heap.size s ∧ s.n ≤ n ∧ Below w.heap.size w w' := by
  by_cases hG : Good zs
  · refine (cum_ok a n cap zs w hF hG hcap hc2).mono fun e w' ⟨l, L, hl, ⟨h1, h2, h3, h4⟩, he⟩ => ⟨⟨some ⟨w.heap.size, 0, none⟩, n, n, L⟩, 0, he, ?_, Nat.le_refl _, h4⟩
    have hL : L.length = n := h1.trans hF.len
    refine ⟨by rw [fvals_length, hL, Nat.mul_one], .inr ⟨w.heap.size, n, _, rfl, Nat.le_refl _, h3, Nat.le_refl _, Nat.le_trans hcap hc2, by simp [fvals_length, hL], ?_⟩⟩
    simp only [List.toList_toArray]; exact List.take_of_length_le (by simp [fvals_length, hL])
  · exact (cum_no a n cap zs w hF hG).mono fun e w' ⟨hw, he⟩ => ⟨⟨none, 0, 0, []⟩, 2, he, World.ownsRow_nil _ _ _ _, Nat.zero_le _, by rw [hw]; exact Below.refl _ _⟩
theorem own_olds {W : World} {base n c : Nat} {a : Option Addr} {zs : List Nat} (h : W.ownsRow base 28 1 (.slice a n c) n (fvals zs)) {b : Addr} (hb : a = some b) (j : Nat) (u : Value) (hu : (fvals zs)[j]? = some u) : W.cell? (b.add j) = some u := by
  rcases h.2 with ⟨h1, _⟩ | ⟨g, cp, cur, h1, _⟩
  · injection h1 with h4; rw [h4] at hb; cases hb
  · injection h1 with h4 h5 h6
    subst h4
    cases hb
    exact h.cells rfl j u hu
theorem own_cell {W : World} {base g M c : Nat} {ss : List Fs} (h : W.ownsRow base 22 1 (.slice (some ⟨g, 0, none⟩) M c) ss.length (ss.map Fs.val)) (hl : ss.length = M) (i : Nat) (s : Fs) (hs : ss[i]? = some s) : W.cell? ⟨g, i, none⟩ = some s.val := by
  rw [hl] at h
  have hi := (List.getElem?_eq_some_iff.1 hs).1
  rw [h.cellAt i (by omega), List.getElem?_map, hs]; rfl
theorem al_cell {W : World} {base g M c : Nat} {wA : World} {ss ps : List Fs} (h : AL W base (.slice (some ⟨g, 0, none⟩) M c) wA ss ps) (hl : ss.length = M) (i : Nat) (s : Fs) (hs : ss[i]? = some s) : W.cell? ⟨g, i, none⟩ = some s.val := own_cell h.own hl i s hs

set_option maxRecDepth 100000 in
set_option maxHeartbeats 4000000 in
theorem ownD_any (a0 : Option Addr) (n0 c0 : Nat) (z0 : List Nat) (a1 : Option Addr) (n1 c1 : Nat) (z1 : List Nat) (w : World) (h0 : Fl w a0 n0 z0) (h1 : Fl w a1 n1 z1) (k0 : n0 ≤ 17592186043904 ∧ n0 ≤ c0 ∧ c0 ≤ maxLen) (k1 : n1 ≤ 17592186043904 ∧ n1 ≤ c1 ∧ c1 ≤ maxLen) :
    Calls Try.prog 3 #[.slice a0 n0 c0, .slice a1 n1 c1] w fun e w' => e = .returned (.bool true) ∧ Below w.heap.size w w' := by
  obtain ⟨i24, hi24, hz240, hz241, hz242⟩ := info_parts Try.info22
  obtain ⟨i5, hi5, hz50, hz51, hz52⟩ := info_parts Try.info28
  have H0 : Hid (Fl w a0 n0 z0 ∧ n0 ≤ 17592186043904 ∧ n0 ≤ c0 ∧ c0 ≤ maxLen) := ⟨h0, k0⟩
  have H1 : Hid (Fl w a1 n1 z1 ∧ n1 ≤ 17592186043904 ∧ n1 ≤ c1 ∧ c1 ≤ maxLen) := ⟨h1, k1⟩
  clear h0 h1 k0 k1
  go_enter Try.func3, Try.ntmps3
  go_wp2_with fail
  refine (awake_any w).mono ?_
  rintro e wA ⟨rfl, hbA⟩
  go_wp2_with fail
  go_loopw [5, 6] (fun v t W => ∃ (i : Nat) (ss : List Fs), i ≤ 3 ∧ t = .int .i64 i ∧ AL W wA.heap.size v wA ss [] ∧ ss.length = i ∧ Sizes ss) (fun _ t _ => 3 - (intOf t).toNat)
  case atStart => exact ⟨0, [], by omega, rfl, ⟨World.ownsRow_nil _ _ _ _, (fun s hs => by cases hs), (fun i j s t b hi => by simp at hi), Below.refl _ _, Nat.le_refl _⟩, rfl, fun s hs => by cases hs⟩
  case round =>
    obtain ⟨i, ss, hi3, rfl, hA, hsl, hSz⟩ := hrel
    by_cases hik : i < 3
    · have HA : Hid (AL wr wA.heap.size u5 wA ss []) := hA
      have HSz : Hid (Sizes ss) := hSz
      have HW : Hid (Below w.heap.size w wr) := hbA.trans (hA.low.mono hbA.size)
      have Hsl : Hid (ss.length = i) := hsl
      have hsl3 : ss.length ≤ 3 := by omega
      clear hA hSz hsl
      have ik : (i : Int) < 3 := by omega
      go_upto_if 26 with fail
      go_cut [7] (fun v wc => ∃ (ax : Option Addr) (nx cx : Nat) (zx : List Nat), v = .slice ax nx cx ∧ Hid (Fl w ax nx zx ∧ nx ≤ 17592186043904 ∧ nx ≤ cx ∧ cx ≤ maxLen) ∧ wr = wc)
      case first =>
        by_cases hi1 : i = 1
        · subst hi1
          go_wp2
          go_meet
          case rel => exact ⟨a1, n1, c1, z1, rfl, H1, rfl⟩
        · have hi2 : ((i : Int) == 1) = false := beq_eq_false_iff_ne.2 (by omega)
          go_wp2
          go_meet
          case rel => exact ⟨a0, n0, c0, z0, rfl, H0, rfl⟩
      case rest =>
        obtain ⟨ax, nx, cx, zx, rfl, HX, rfl⟩ := hcut
        go_wp2_with fail
        refine (cum_row ax nx cx zx wr (HX.out.1.of_below HW.out) HX.out.2.2.1 HX.out.2.2.2).mono ?_
        rintro e w1 ⟨⟨sa, sn, sc, sz⟩, er, rfl, hR, hsn, hb1⟩
        have HA1 : Hid (AL w1 wA.heap.size u5 wA ss ([] ++ [⟨sa, sn, sc, sz⟩])) := (HA.out.later hb1).waits HA.out.lt HA.out.size (fun s hs => by obtain rfl := List.mem_singleton.1 hs; exact hR) (fun i j s t b hi hj _ _ => by
          have h1 := (List.getElem?_eq_some_iff.1 hi).1
          have h2 := (List.getElem?_eq_some_iff.1 hj).1
          simp at h1 h2
          omega)
        have Hsn : Hid (sn ≤ 17592186043904) := Nat.le_trans hsn HX.out.2.1
        dsimp only
        clear hR hb1 HA hsn
        go_wp2_with (at_builtin; refine wpList_append_own_at _ rfl (.tmp 33) (.tmp 35) 24 rfl wA.heap.size 22 i24 (.slice none 0 0) 1 24 Try.underlying24 hi24 hz240 hz241 hz242 rfl (by decide) u5 ss.length (ss.map Fs.val) rfl (HA1.out.own.alloc _) ⟨w1.heap.size, 0, none⟩ 1 1 [.slice sa sn sc] rfl rfl (cell_one_new _ _ _) (by intro u hu; simp at hu; subst hu; rfl) (by unfold maxLen; omega) (by omega) (Nat.le_trans HA1.out.size (by simp)) ?_; intro v6 w5 hown5 hgrow5 _ hat5; have HA5 : Hid (AL w5 wA.heap.size v6 wA (ss ++ [⟨sa, sn, sc, sz⟩]) []) := HA1.out.push hown5 hgrow5; clear hown5 hgrow5 hat5)
        go_roundw
        case rel => exact ⟨i + 1, ss ++ [⟨sa, sn, sc, sz⟩], by omega, by go_num, HA5.out, by have := Hsl.out; simp; omega, fun y hy => by
          rcases List.mem_append.1 hy with h | h
          · exact HSz.out y h
          · obtain rfl := List.mem_singleton.1 h
            exact Hsn.out⟩
        case measure => simp [intOf]; omega
    · obtain ⟨M, hM⟩ : ∃ M, ss.length = M := ⟨_, rfl⟩
      have hMl : M ≤ 33 := by omega
      have HM3 : Hid (M = 3) := (by omega : M = 3)
      have hM3 : M = 3 := HM3.out
      obtain ⟨a5, c5, hu5⟩ := own_shape hA.own
      rw [hM] at hu5
      subst hu5
      have HA0 : Hid (AL wr wA.heap.size (.slice a5 M c5) wA ss []) := hA
      have HSz : Hid (Sizes ss) := hSz
      have HM : Hid (ss.length = M) := hM
      clear hA hSz hM hsl hM3 H0 H1
      go_wp2_with fail
      go_loopw [10] (fun t W => ∃ (i : Nat) (ts : List Fs), i ≤ M ∧ t = .int .i64 i ∧ ts.length = M ∧ AL W wA.heap.size (.slice a5 M c5) wA ts [] ∧ Filled i ts ∧ Sizes ts) (fun t _ => M - (intOf t).toNat)
      case atStart => exact ⟨0, ss, by omega, rfl, HM.out, HA0.out, fun j s hj => by omega, HSz.out⟩
      case round =>
        obtain ⟨i, ts, hi', rfl, htl, hA, hF, hS⟩ := hrel
        by_cases hik : i < M
        · obtain ⟨x, hx⟩ : ∃ x, ts[i]? = some x := ⟨ts[i]'(by omega), List.getElem?_eq_getElem _⟩
          obtain ⟨g, rfl⟩ : ∃ g, a5 = some ⟨g, 0, none⟩ := by
            rcases hA.own.2 with ⟨h1, h2⟩ | ⟨g', cp, cur, h1, _⟩
            · omega
            · cases h1; exact ⟨g', rfl⟩
          have hdn := hS x (List.mem_of_getElem? hx)
          have i0' : (0 : Int) ≤ i := by omega
          have i1' : (i : Int) < M := by omega
          have i3' : (i : Int) < 3 := by have := HM3.out; omega
          obtain ⟨dn, hdn'⟩ : ∃ m, x.n = m := ⟨_, rfl⟩
          rw [hdn'] at hdn
          have HA : Hid (AL wr wA.heap.size (.slice (some ⟨g, 0, none⟩) M c5) wA ts []) := hA
          have HF : Hid (Filled i ts) := hF
          have HS : Hid (Sizes ts) := hS
          have HX : Hid (ts[i]? = some x ∧ x.n = dn) := ⟨hx, hdn'⟩
          have HTL : Hid (ts.length = M) := htl
          clear hA hF hS hx hdn' htl
          go_wp2_with fail
          go_loopw [11] (fun t W => ∃ (k : Nat) (us : List Fs) (y : Fs), k ≤ dn ∧ t = .int .i64 k ∧ us.length = M ∧ AL W wA.heap.size (.slice (some ⟨g, 0, none⟩) M c5) wA us [] ∧ Filled i us ∧ Sizes us ∧ us[i]? = some y ∧ y.n = dn ∧ Marks i y k) (fun t _ => dn - (intOf t).toNat)
          case atStart => exact ⟨0, ts, x, by omega, rfl, HTL.out, HA.out, HF.out, HS.out, HX.out.1, HX.out.2, fun k hk => by omega⟩
          case round =>
            obtain ⟨k, us, y, hk, rfl, hul, hA, hF, hS, hy, hyn, hM⟩ := hrel
            have m3 := al_cell hA hul i y hy
            have hL0 := hA.rows y (by simp [List.mem_of_getElem? hy])
            obtain ⟨da, dn', dc, dz⟩ := y
            have hyn := hyn.symm
            subst hyn
            have hL : wr.ownsRow wA.heap.size 28 1 (.slice da dn dc) dn (fvals dz) := hL0
            have hdl : dz.length = dn := by have := hL.1; simpa [fvals_length] using this
            dsimp only [Fs.val] at m3
            have k0 : (0 : Int) ≤ k := by omega
            have HA : Hid (AL wr wA.heap.size (.slice (some ⟨g, 0, none⟩) M c5) wA us []) := hA
            have HF : Hid (Filled i us) := hF
            have HS : Hid (Sizes us) := hS
            have HX : Hid (us[i]? = some ⟨da, dn, dc, dz⟩) := hy
            have HMk : Hid (Marks i ⟨da, dn, dc, dz⟩ k) := hM
            have HTL : Hid (us.length = M) := hul
            have HDL : Hid (dz.length = dn) := hdl
            clear hA hF hS hy hM hul hL0
            by_cases hkn : k < dn
            · obtain ⟨b, rfl⟩ : ∃ b, da = some ⟨b, 0, none⟩ := by
                rcases hL.2 with ⟨h1, h2⟩ | ⟨g', cp, cur, h1, _⟩
                · omega
                · cases h1; exact ⟨g', rfl⟩
              have hcell : wr.cell? ⟨b, k, none⟩ = some (.float .f64 (dz.getD k 0)) := by rw [hL.cellAt k (by omega), fvals_get _ _ (by omega)]
              have hfro : wr.frozen? ⟨b, k, none⟩ = false := hL.frozenAt k
              have k1 : (k : Int) < dn := by omega
              have st := st_float
              clear hL hdl
              go_wp2
              go_roundw
              case rel =>
                refine ⟨k + 1, us.set i ⟨some ⟨b, 0, none⟩, dn, dc, dz.set k (nkr i)⟩, _, by omega, by go_num, by simpa using HTL.out, HA.out.store i b dn dc dz HX.out k _, ?_, ?_, List.getElem?_set_self (List.getElem?_eq_some_iff.1 HX.out).1, rfl, ?_⟩
                · intro j y hj hjy
                  rw [List.getElem?_set_ne (by omega)] at hjy
                  exact HF.out j y hj hjy
                · intro y hy
                  rcases mem_set_cases hy with rfl | ⟨j, _, hjy⟩
                  · exact hdn
                  · exact HS.out y (List.mem_of_getElem? hjy)
                · intro q hq
                  by_cases hqk : q = k
                  · subst hqk
                    simp [List.getD, HDL.out, hkn]
                  · have := HMk.out q (by omega)
                    simpa [List.getD, List.getElem?_set_ne (show k ≠ q by omega)] using this
              case measure => simp [intOf]; omega
            · go_wp2
              go_roundw
              case rel =>
                refine ⟨i + 1, us, by omega, by go_num, HTL.out, HA.out, ?_, HS.out⟩
                intro j y hj hjy
                by_cases hji : j = i
                · subst hji
                  rw [HX.out] at hjy
                  cases hjy
                  intro q hq
                  exact HMk.out q (by dsimp only at hq; omega)
                · exact HF.out j y (by omega) hjy
              case measure => simp [intOf]; omega
        · have i3n : ¬ (i : Int) < 3 := by have := HM3.out; omega
          obtain ⟨w9, hw9⟩ : ∃ W, W = wr := ⟨_, rfl⟩
          subst hw9
          have HP0 : Hid (PH w9 wA.heap.size (.slice a5 M c5) (.slice none 0 0) wA ts []) := PH.begin hA
          have HF9 : Hid (∀ (j : Nat) (s : Fs), ts[j]? = some s → Marks j s s.n) := fun j s hs => hF j s (by have := (List.getElem?_eq_some_iff.1 hs).1; omega) hs
          have HS9 : Hid (Sizes ts) := hS
          have HT9 : Hid (ts.length = M) := htl
          clear hA hF hS htl HA0 HSz HM hi3
          go_wp2_with fail
          go_loopw [12, 13] (fun v t W => ∃ (i : Nat) (gs : List Fs), i ≤ M ∧ t = .int .i64 i ∧ gs.length = i ∧ PH W wA.heap.size (.slice a5 M c5) v wA ts gs) (fun _ t _ => M - (intOf t).toNat)
          case atStart => exact ⟨0, [], by omega, rfl, rfl, HP0.out⟩
          case round =>
            obtain ⟨i, gs, hi', rfl, hgl, hP⟩ := hrel
            by_cases hik : i < M
            · obtain ⟨s, hs⟩ : ∃ s, ts[i]? = some s := ⟨ts[i]'(by have := HT9.out; omega), List.getElem?_eq_getElem _⟩
              obtain ⟨g, rfl⟩ : ∃ g, a5 = some ⟨g, 0, none⟩ := by
                rcases hP.own5.2 with ⟨h1, h2⟩ | ⟨g', cp, cur, h1, _⟩
                · have := HT9.out; omega
                · cases h1; exact ⟨g', rfl⟩
              have m3 := own_cell hP.own5 HT9.out i s hs
              have hsn := HS9.out s (List.mem_of_getElem? hs)
              have i0' : (0 : Int) ≤ i := by omega
              have i1' : (i : Int) < M := by omega
              have i3' : (i : Int) < 3 := by have := HM3.out; omega
              obtain ⟨w10, hw10⟩ : ∃ W, W = wr := ⟨_, rfl⟩
              subst hw10
              have hRs := hP.later i s (by omega) hs
              have HI0 : Hid (II w10 w10 wA.heap.size wA s s 0 (mkr i)) := II.begin hRs hP.low
              obtain ⟨sa, sn, sc, sz⟩ := s
              dsimp only [Fs.val] at m3 hsn
              have HP : Hid (PH w10 wA.heap.size (.slice (some ⟨g, 0, none⟩) M c5) u12 wA ts gs) := hP
              have HR : Hid (RowOf w10 wA.heap.size ⟨sa, sn, sc, sz⟩) := hRs
              have HGL : Hid (gs.length = i) := hgl
              have Hs : Hid (ts[gs.length]? = some ⟨sa, sn, sc, sz⟩) := by show _ = _; rw [hgl]; exact hs
              have HSl : Hid (sz.length = sn) := (Rd.of_row hRs).1
              clear hP hRs hgl hs
              go_wp2_with fail
              go_loopw [14, 15] (fun v t W => ∃ (k : Nat) (q : Fs), k ≤ 20 ∧ t = .int .i64 k ∧ v = q.val ∧ II w10 W wA.heap.size wA ⟨sa, sn, sc, sz⟩ q k (mkr i)) (fun _ t _ => 20 - (intOf t).toNat)
              case atStart => exact ⟨0, ⟨sa, sn, sc, sz⟩, by omega, rfl, rfl, HI0.out⟩
              case round =>
                obtain ⟨k, ⟨qa, qn, qc, qz⟩, hk, rfl, rfl, hI⟩ := hrel
                have k0 : (0 : Int) ≤ k := by omega
                have hqn : qn = sn + k := hI.n
                have hbs : wA.heap.size ≤ wr.heap.size := Nat.le_trans HP.out.size hI.size
                have HI : Hid (II w10 wr wA.heap.size wA ⟨sa, sn, sc, sz⟩ ⟨qa, qn, qc, qz⟩ k (mkr i)) := hI
                have HL : Hid (wr.ownsRow wA.heap.size 28 1 (.slice qa qn qc) qn (fvals qz)) := hI.own
                have Hqn : Hid (qn = sn + k) := hqn
                have hqs : qn ≤ 17592186043924 := by omega
                clear hI hqn
                dsimp only [Fs.val]
                by_cases hk20 : k < 20
                · have k1 : (k : Int) < 20 := by omega
                  by_cases hr : qn + 1 ≤ qc
                  · obtain ⟨b, rfl⟩ : ∃ b, qa = some ⟨b, 0, none⟩ := by
                      rcases HL.out.2 with ⟨h1, h2⟩ | ⟨g', cp, cur, h1, _⟩
                      · injection h1 with h4 h5 h6; omega
                      · injection h1 with h4 h5 h6; exact ⟨g', h4⟩
                    go_wp2_with (at_builtin; refine wpList_append_fits _ rfl (.tmp 72) (.tmp 76) 22 rfl wA.heap.size 28 i5 1 Try.underlying22 hi5 hz51 b qn qc (fvals qz) rfl (HL.out.alloc _) ⟨wr.heap.size, 0, none⟩ 1 1 [.float .f64 (mkr i)] rfl rfl (cell_one_new _ _ _) (by intro u hu; simp at hu; subst hu; rfl) hr ?_; intro w11 hown11 hgrow11; have HI11 : Hid (II w10 w11 wA.heap.size wA ⟨sa, sn, sc, sz⟩ ⟨some ⟨b, 0, none⟩, qn + 1, qc, qz ++ [mkr i]⟩ (k + 1) (mkr i)) := HI.out.fits HR.out hbs hown11 hgrow11; clear hown11 hgrow11)
                    go_roundw
                    case rel => exact ⟨k + 1, ⟨some ⟨b, 0, none⟩, qn + 1, qc, qz ++ [mkr i]⟩, by omega, by go_num, rfl, HI11.out⟩
                    case measure => simp [intOf]; omega
                  · have HOl : Hid (∀ o : Obj, ∀ b, qa = some b → ∀ j u, (fvals qz)[j]? = some u → (wr.alloc o).cell? (b.add j) = some u) := fun o b hb j u hu => own_olds (HL.out.alloc o) hb j u hu
                    have Hnn : Hid (qa = none → qn = 0 ∧ qc = 0) := fun h => by
                      rcases HL.out.2 with ⟨h1, h2⟩ | ⟨g', cp, cur, h1, _⟩
                      · injection h1 with h4 h5 h6; exact ⟨h2, h6⟩
                      · injection h1 with h4 h5 h6; rw [h] at h4; cases h4
                    have Hql : Hid ((fvals qz).length = qn * 1) := HL.out.1
                    go_wp2_with (at_builtin; refine wpList_append_grows _ rfl (.tmp 72) (.tmp 76) 22 rfl 28 i5 (.float .f64 0) 1 8 Try.underlying22 hi5 hz50 hz51 hz52 rfl (by decide) qa qn qc (fvals qz) rfl Hnn.out Hql.out (HOl.out _) ⟨wr.heap.size, 0, none⟩ 1 1 [.float .f64 (mkr i)] rfl rfl (cell_one_new _ _ _) (by intro u hu; simp at hu; subst hu; rfl) (by omega) (by unfold maxLen; omega) (by omega) ?_; intro v11 w11 hown11 hgrow11; obtain ⟨a11, c11, hv11, HI11⟩ := HI.out.grows HSl.out hbs hown11 hgrow11; subst hv11; clear hown11 hgrow11)
                    go_roundw
                    case rel => exact ⟨k + 1, ⟨a11, qn + 1, c11, qz ++ [mkr i]⟩, by omega, by go_num, rfl, HI11⟩
                    case measure => simp [intOf]; omega
                · obtain rfl : k = 20 := by omega
                  have HM21 : Hid (wr.ownsRow wA.heap.size 22 1 u12 gs.length (gs.map Fs.val)) := (HP.out.mid Hs.out HI.out).2
                  have hgs : gs.length ≤ 33 := by have := HGL.out; omega
                  have HI20 : Hid (II w10 wr wA.heap.size wA ⟨sa, sn, sc, sz⟩ ⟨qa, qn, qc, qz⟩ 20 (mkr gs.length)) := by
                    show II _ _ _ _ _ _ _ _
                    rw [HGL.out]; exact HI.out
                  go_wp2_with (at_builtin; refine wpList_append_own_at _ rfl (.tmp 78) (.tmp 80) 24 rfl wA.heap.size 22 i24 (.slice none 0 0) 1 24 Try.underlying24 hi24 hz240 hz241 hz242 rfl (by decide) u12 gs.length (gs.map Fs.val) rfl (HM21.out.alloc _) ⟨wr.heap.size, 0, none⟩ 1 1 [.slice qa qn qc] rfl rfl (cell_one_new _ _ _) (by intro u hu; simp at hu; subst hu; rfl) (by unfold maxLen; omega) (by omega) (by simp; omega) ?_; intro v12 w12 hown12 hgrow12 _ hat12; have HP12 : Hid (PH w12 wA.heap.size (.slice (some ⟨g, 0, none⟩) M c5) v12 wA ts (gs ++ [⟨qa, qn, qc, qz⟩])) := HP.out.next Hs.out HI20.out hown12 hgrow12 hat12; clear hown12 hgrow12 hat12)
                  go_roundw
                  case rel => exact ⟨i + 1, gs ++ [⟨qa, qn, qc, qz⟩], by omega, by go_num, by simp [HGL.out], HP12.out⟩
                  case measure => simp [intOf]; omega
            · have i3n2 : ¬ (i : Int) < 3 := by have := HM3.out; omega
              obtain ⟨w11, hw11⟩ : ∃ W, W = wr := ⟨_, rfl⟩
              subst hw11
              have hgM : gs.length = M := by omega
              obtain ⟨a21, c21, hu12⟩ := own_shape hP.own21
              rw [hgM] at hu12
              subst hu12
              have HP : Hid (PH w11 wA.heap.size (.slice a5 M c5) (.slice a21 M c21) wA ts gs) := hP
              have HGM : Hid (gs.length = M) := hgM
              have Bw11 : Below w.heap.size w w11 := hbA.trans (hP.low.mono hbA.size)
              clear hP hgM hgl HP0
              go_wp2_with fail
              go_loopw [16] (fun t W => ∃ i : Nat, i ≤ M ∧ t = .int .i64 i ∧ W = w11) (fun t _ => M - (intOf t).toNat)
              case atStart => exact ⟨0, by omega, rfl, rfl⟩
              case round =>
                obtain ⟨j, hj', rfl, hwr⟩ := hrel
                have hwr := hwr.symm
                subst hwr
                by_cases hjM : j < M
                · obtain ⟨s, hs⟩ : ∃ s, ts[j]? = some s := ⟨ts[j]'(by have := HT9.out; omega), List.getElem?_eq_getElem _⟩
                  obtain ⟨q, hq⟩ : ∃ q, gs[j]? = some q := ⟨gs[j]'(by have := HGM.out; omega), List.getElem?_eq_getElem _⟩
                  obtain ⟨g5, rfl⟩ : ∃ g, a5 = some ⟨g, 0, none⟩ := by
                    rcases HP.out.own5.2 with ⟨h1, h2⟩ | ⟨g', cp, cur, h1, _⟩
                    · have := HT9.out; omega
                    · cases h1; exact ⟨g', rfl⟩
                  obtain ⟨g21, rfl⟩ : ∃ g, a21 = some ⟨g, 0, none⟩ := by
                    rcases HP.out.own21.2 with ⟨h1, h2⟩ | ⟨g', cp, cur, h1, _⟩
                    · have := HGM.out; omega
                    · cases h1; exact ⟨g', rfl⟩
                  have m5 := own_cell HP.out.own5 HT9.out j s hs
                  have m21 := own_cell HP.out.own21 HGM.out j q hq
                  obtain ⟨d1, d2, d3, d4⟩ := HP.out.done j s q hs hq
                  have hmk := HF9.out j s hs
                  have hsn := HS9.out s (List.mem_of_getElem? hs)
                  have j0 : (0 : Int) ≤ j := by omega
                  have j1 : (j : Int) < M := by omega
                  have j3' : (j : Int) < 3 := by have := HM3.out; omega
                  obtain ⟨sa, sn, sc, sz⟩ := s
                  obtain ⟨qa, qn, qc, qz⟩ := q
                  dsimp only [Fs.val] at m5 m21 hsn d3 d4 hmk
                  subst d3
                  have D1 : Hid (Rd w11 ⟨sa, sn, sc, sz⟩) := d1
                  have D2 : Hid (Rd w11 ⟨qa, sn + 20, qc, qz⟩) := d2
                  have D4 : Hid (qz = sz ++ List.replicate 20 (mkr j)) := d4
                  have HMk : Hid (Marks j ⟨sa, sn, sc, sz⟩ sn) := hmk
                  obtain ⟨K, hK⟩ : ∃ K, sn + 20 = K := ⟨_, rfl⟩
                  rw [hK] at m21
                  have HK : Hid (sn + 20 = K) := hK
                  have hKl : K ≤ 17592186043924 := by omega
                  clear d1 d2 d4 hmk hs hq hK
                  go_wp2_with fail
                  go_loopw [17] (fun t W => ∃ k : Nat, k ≤ K ∧ t = .int .i64 k ∧ W = w11) (fun t _ => K - (intOf t).toNat)
                  case atStart => exact ⟨0, by omega, rfl, rfl⟩
                  case round =>
                    obtain ⟨k, hk, rfl, hwr⟩ := hrel
                    have hwr := hwr.symm
                    subst hwr
                    have k0 : (0 : Int) ≤ k := by omega
                    by_cases hkK : k < K
                    · have k1 : (k : Int) < K := by omega
                      obtain ⟨bq, hqa, hqc⟩ : ∃ b, qa = some ⟨b, 0, none⟩ ∧ w11.cell? ⟨b, k, none⟩ = some (.float .f64 (qz.getD k 0)) := by
                        rcases D2.out.2 with h1 | ⟨b, cur, h1, _, h2⟩
                        · dsimp only at h1; omega
                        · exact ⟨b, h1, h2 k (by have := HK.out; dsimp only; omega)⟩
                      subst hqa
                      by_cases hks : k < sn
                      · obtain ⟨bs, hsa, hsc⟩ : ∃ b, sa = some ⟨b, 0, none⟩ ∧ w11.cell? ⟨b, k, none⟩ = some (.float .f64 (sz.getD k 0)) := by
                          rcases D1.out.2 with h1 | ⟨b, cur, h1, _, h2⟩
                          · dsimp only at h1; omega
                          · exact ⟨b, h1, h2 k hks⟩
                        subst hsa
                        have e1 : sz.getD k 0 = nkr j := HMk.out k hks
                        have e2 : qz.getD k 0 = nkr j := by
                          rw [D4.out, ← e1]
                          have := D1.out.1
                          dsimp only at this
                          simp [List.getD, List.getElem?_append_left (show k < sz.length by omega)]
                        rw [e1] at hsc
                        rw [e2] at hqc
                        unfold nkr at hsc hqc
                        have hms := (mark_same j (by have := HM3.out; omega)).1
                        have k2 : (k : Int) < sn := by omega
                        clear e1 e2
                        go_wp2
                        go_roundw
                        case rel => exact ⟨k + 1, by omega, by go_num, trivial⟩
                        case measure => simp [intOf]; omega
                      · have e2 : qz.getD k 0 = mkr j := by
                          rw [D4.out]
                          have h1 := D1.out.1
                          have h2 := HK.out
                          dsimp only at h1
                          rw [List.getD, List.getElem?_append_right (by omega), List.getElem?_replicate, if_pos (by omega)]
                          rfl
                        rw [e2] at hqc
                        unfold mkr at hqc
                        have hms := (mark_same j (by have := HM3.out; omega)).2
                        have k2 : (sn : Int) ≤ k := by omega
                        clear e2
                        go_wp2
                        go_roundw
                        case rel => exact ⟨k + 1, by omega, by go_num, trivial⟩
                        case measure => simp [intOf]; omega
                    · go_wp2
                      go_roundw
                      case rel => exact ⟨j + 1, by omega, by go_num, trivial⟩
                      case measure => simp [intOf]; omega
                · have j3n : ¬ (j : Int) < 3 := by have := HM3.out; omega
                  go_wp2
                  go_ret
                  exact ⟨rfl, Bw11⟩
end Go.Proofs.Ytfolfeaednmcoab
