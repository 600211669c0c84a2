/- DrawPlaces' walk. -/
import Derived.Test.YtfolfeaednmcoaaLent
namespace Go.Proofs.Ytfolfeaednmcoaa
open Go.RowKit Ieee
set_option linter.unusedVariables false
set_option linter.unusedSimpArgs false
theorem S_inf (b : Nat) : S INF b = INF := by unfold S; rw [if_neg (Nat.lt_irrefl _)]
theorem foldl_inf (zs : List Nat) : zs.foldl S INF = INF := by
  induction zs with
  | nil => rfl
  | cons z zs ih => rw [List.foldl_cons, S_inf, ih]
theorem tot_fin {zs : List Nat} (h : tot zs < INF) (k : Nat) : tot (zs.take k) < INF := by
  rcases Nat.lt_or_ge (tot (zs.take k)) INF with h1 | h1
  · exact h1
  · have e : tot (zs.take k) = INF := Nat.le_antisymm (tot_le _) h1
    have e2 : tot zs = INF := by
      unfold tot at *
      rw [← List.take_append_drop k zs, List.foldl_append, e, foldl_inf]
    rw [e2] at h
    exact absurd h (Nat.lt_irrefl _)
theorem last_unique {zs : List Nat} {l l' : Nat} (hG : Good zs) (h : LastIs zs zs.length l) (h' : LastIs zs zs.length l') : l = l' := by
  have a := last_lt hG h
  have b := last_lt hG h'
  rcases h with ⟨_, h1, _⟩ | ⟨_, _, h1, _⟩
  · have := h1 l a.1; omega
  rcases h' with ⟨_, h2, _⟩ | ⟨_, _, h2, _⟩
  · have := h2 l' b.1; omega
  rcases Nat.lt_trichotomy l l' with h | h | h
  · have := h1 l' h b.1; omega
  · exact h
  · have := h2 l h a.1; omega
theorem sums_unique {zs L L' : List Nat} (hG : Good zs) (h : Sums zs L) (h' : Sums zs L') : L = L' := by
  obtain ⟨l, h1, h2, h3⟩ := h
  obtain ⟨l', g1, g2, g3⟩ := h'
  have e := last_unique hG h1 g1
  subst e
  apply List.ext_getElem (by omega)
  intro i hi hi'
  have a := h3 i (by omega)
  have b := g3 i (by omega)
  rw [← b] at a
  simpa [List.getD, hi, hi'] using a
theorem sums_fin {zs L : List Nat} (hG : Good zs) (h : Sums zs L) (i : Nat) (hi : i < zs.length) : L.getD i 0 < INF := by
  obtain ⟨l, h1, h2, h3⟩ := h
  rw [h3 i hi]
  unfold cumAt
  split
  · exact tot_fin hG.2.2 _
  · decide
theorem up_fin {z m : Nat} (hz : z < INF) (hm : m < 2 ^ 53) : up (unit m) z = decide (sv (unit m) < sv z) := by
  unfold up
  rw [order_fin z _ (by rw [(rg_lt (Nat.le_of_lt hz)).1]; exact hz) (rg_unit hm).2]
  exact cmp_gt _ _
theorem place_pos {zs L : List Nat} {m k : Nat} (hG : Good zs) (hS : Sums zs L) (hm : m < 2 ^ 53) (hP : PlaceIs L (unit m) k) : k < zs.length ∧ 0 < rg (zs.getD k 0) := by
  have hS' := hS
  obtain ⟨l, h1, h2, h3⟩ := hS
  obtain ⟨p1, p2, p3⟩ := hP
  have hl := last_lt hG h1
  have hk : k < zs.length := by omega
  refine ⟨hk, ?_⟩
  rcases Nat.lt_trichotomy k l with h | h | h
  · apply Nat.pos_of_ne_zero
    intro h0
    rw [h3 k hk, cumAt, if_pos h, tot_succ zs k hk, S_keep (tot_fin hG.2.2 k) h0] at p2
    cases k with
    | zero =>
      have e : tot (zs.take 0) = 0 := by simp [tot]
      rw [e, up_fin (by decide) hm, sv_zero, sv_unit hm] at p2
      simp only [decide_eq_true_iff] at p2
      omega
    | succ k =>
      have := p3 k (Nat.lt_succ_self k)
      rw [h3 k (by omega), cumAt, if_pos (by omega), p2] at this
      cases this
  · rw [h]; exact hl.2
  · have := p3 l h
    rw [h3 l hl.1, cumAt, if_neg (by omega), up_one hm] at this
    cases this
theorem place_mono {zs L : List Nat} {m m' i j : Nat} (hG : Good zs) (hS : Sums zs L) (hm : m < 2 ^ 53) (hm' : m' < 2 ^ 53) (hle : m ≤ m') (hi : PlaceIs L (unit m) i) (hj : PlaceIs L (unit m') j) : i ≤ j := by
  apply Nat.le_of_not_lt
  intro hlt
  have h1 := hi.2.2 j hlt
  have hL : L.length = zs.length := by obtain ⟨_, _, h, _⟩ := hS; exact h
  have hf := sums_fin hG hS j (by have := hj.1; omega)
  have h2 := hj.2.1
  rw [up_fin hf hm] at h1
  rw [up_fin hf hm'] at h2
  simp only [decide_eq_true_iff] at h2
  simp only [decide_eq_false_iff_not] at h1
  rw [sv_unit hm] at h1
  rw [sv_unit hm'] at h2
  have h3 : m * pw 1021 ≤ m' * pw 1021 := Nat.mul_le_mul_right _ hle
  generalize m * pw 1021 = A at *
  generalize m' * pw 1021 = B at *
  omega
theorem gt_weight {zs : List Nat} {k : Nat} (hG : Good zs) (hk : k < zs.length) (h : 0 < rg (zs.getD k 0)) : (FloatKind.f64.format.order (zs.getD k 0) 0 == some .gt) = true := by
  have := gt_zero (hG.1 k hk)
  show (double.order _ 0 == some .gt) = true
  rw [this]; simpa using h
set_option maxRecDepth 100000 in
set_option maxHeartbeats 1000000 in
theorem places_no (a : Option Addr) (n cap : Nat) (zs : List Nat) (p q : Nat) (w : World) (hp : p < 18446744073709551616) (hq : q < 18446744073709551616) (hF : Fl w a n zs) (hb : a = none → cap = 0) (hG : ¬ Good zs) :
    Calls Try.prog 6 #[.slice a n cap, .int .u64 p, .int .u64 q] w fun e w' => e = .returned (.bool true) ∧ Below w.heap.size w w' := by
  have HF : Hid (Fl w a n zs) := hF
  have HG : Hid (¬ Good zs) := hG
  have HD : Hid (a = none → cap = 0) := hb
  clear hF hb hG
  go_enter Try.func6, Try.ntmps6
  go_wp2_with fail
  refine (awake_any w).mono ?_
  rintro e w1 ⟨rfl, L1⟩
  have HL1 : Hid (Below w.heap.size w w1) := L1
  clear L1
  go_wp2_with fail
  refine (lent_any a n cap zs w1 (HF.out.of_below HL1.out) HD.out).mono ?_
  rintro e w2 ⟨g, c, rfl, R2, L2⟩
  have HL2 : Hid (Below w.heap.size w w2) := HL1.out.trans (L2.mono HL1.out.size)
  have HR2 : Hid (Frow w2 w1.heap.size g n c zs) := R2
  clear HL1 L2 R2
  go_wp2_with fail
  refine (cum_no _ n c zs w2 HR2.out.fl HG.out).mono ?_
  rintro e w3 ⟨rfl, rfl⟩
  clear HR2
  go_wp2_with fail
  refine (lent_any a n cap zs w3 (HF.out.of_below HL2.out) HD.out).mono ?_
  rintro e w4 ⟨g4, c4, rfl, R4, L4⟩
  have HL4 : Hid (Below w.heap.size w w4) := HL2.out.trans (L4.mono HL2.out.size)
  have HR4 : Hid (Frow w4 w3.heap.size g4 n c4 zs) := R4
  clear HL2 L4 R4
  go_wp2_with fail
  refine (pick_no p _ n c4 zs w4 HR4.out.fl HG.out).mono ?_
  rintro e w5 ⟨rfl, rfl⟩
  clear HR4
  go_wp2_with fail
  refine (lent_any a n cap zs w5 (HF.out.of_below HL4.out) HD.out).mono ?_
  rintro e w6 ⟨g6, c6, rfl, R6, L6⟩
  have HL6 : Hid (Below w.heap.size w w6) := HL4.out.trans (L6.mono HL4.out.size)
  have HR6 : Hid (Frow w6 w5.heap.size g6 n c6 zs) := R6
  clear HL4 L6 R6
  go_wp2_with fail
  refine (pick_no q _ n c6 zs w6 HR6.out.fl HG.out).mono ?_
  rintro e w7 ⟨rfl, rfl⟩
  clear HR6
  go_wp2_with fail
  go_ret
  exact ⟨rfl, HL6.out⟩
set_option maxRecDepth 100000 in
set_option maxHeartbeats 1000000 in
theorem places_ok (a : Option Addr) (n cap : Nat) (zs : List Nat) (p q : Nat) (w : World) (hp : p < 18446744073709551616) (hq : q < 18446744073709551616) (hF : Fl w a n zs) (hb : a = none → cap = 0) (hG : Good zs) :
    Calls Try.prog 6 #[.slice a n cap, .int .u64 p, .int .u64 q] w fun e w' => e = .returned (.bool true) ∧ Below w.heap.size w w' := by
  have HF : Hid (Fl w a n zs) := hF
  have HG : Hid (Good zs) := hG
  have HD : Hid (a = none → cap = 0) := hb
  have hs := hF.small
  clear hF hb hG
  go_enter Try.func6, Try.ntmps6
  go_wp2_with fail
  refine (awake_any w).mono ?_
  rintro e w1 ⟨rfl, L1⟩
  have HL1 : Hid (Below w.heap.size w w1) := L1
  clear L1
  go_wp2_with fail
  refine (lent_any a n cap zs w1 (HF.out.of_below HL1.out) HD.out).mono ?_
  rintro e w2 ⟨g, c, rfl, R2, L2⟩
  have HL2 : Hid (Below w.heap.size w w2) := HL1.out.trans (L2.mono HL1.out.size)
  have HR2 : Hid (Frow w2 w1.heap.size g n c zs) := R2
  clear HL1 L2 R2
  go_wp2_with fail
  refine (cum_ok _ n c zs w2 HR2.out.fl HG.out (by have := HR2.out.cap; omega) HR2.out.cap.2).mono ?_
  rintro e w3 ⟨l, L, hl, ⟨h1, h2, h3, h4⟩, rfl⟩
  have HS : Hid (Sums zs L) := ⟨l, by rw [HF.out.len]; exact hl, h1, h2⟩
  have HLn : Hid (L.length = n) := h1.trans HF.out.len
  have HL3 : Hid (Below w.heap.size w w3) := HL2.out.trans (h4.mono HL2.out.size)
  obtain ⟨B, hB⟩ : ∃ B, w2.heap.size = B := ⟨_, rfl⟩
  have HK3 : Hid (w3.heap[B]? = some (.cells (fvals L).toArray 29 (0, 0))) := by rw [← hB]; exact h3
  rw [hB]
  clear HR2 hl h1 h2 h3 h4 hB HL2
  go_wp2_with fail
  refine (lent_any a n cap zs w3 (HF.out.of_below HL3.out) HD.out).mono ?_
  rintro e w4 ⟨g4, c4, rfl, R4, L4⟩
  have HL4 : Hid (Below w.heap.size w w4) := HL3.out.trans (L4.mono HL3.out.size)
  have HR4 : Hid (Frow w4 w3.heap.size g4 n c4 zs) := R4
  have HK4 : Hid (w4.heap[B]? = some (.cells (fvals L).toArray 29 (0, 0))) := L4.cells HK3.out
  clear HL3 L4 R4 HK3
  go_wp2_with fail
  refine (pick_ok p _ n c4 zs w4 hp HR4.out.fl HG.out (by have := HR4.out.cap; omega) HR4.out.cap.2).mono ?_
  rintro e w5 ⟨i, Li, hSi, hPi, rfl, L5⟩
  have hLi := sums_unique HG.out hSi HS.out
  subst hLi
  have HPi : Hid (PlaceIs Li (unit (p / 2048)) i) := hPi
  have HL5 : Hid (Below w.heap.size w w5) := HL4.out.trans (L5.mono HL4.out.size)
  have HK5 : Hid (w5.heap[B]? = some (.cells (fvals Li).toArray 29 (0, 0))) := L5.cells HK4.out
  clear HL4 L5 HK4 HR4 hSi hPi
  go_wp2_with fail
  refine (lent_any a n cap zs w5 (HF.out.of_below HL5.out) HD.out).mono ?_
  rintro e w6 ⟨g6, c6, rfl, R6, L6⟩
  have HL6 : Hid (Below w.heap.size w w6) := HL5.out.trans (L6.mono HL5.out.size)
  have HR6 : Hid (Frow w6 w5.heap.size g6 n c6 zs) := R6
  have HK6 : Hid (w6.heap[B]? = some (.cells (fvals Li).toArray 29 (0, 0))) := L6.cells HK5.out
  clear HL5 L6 R6 HK5
  go_wp2_with fail
  refine (pick_ok q _ n c6 zs w6 hq HR6.out.fl HG.out (by have := HR6.out.cap; omega) HR6.out.cap.2).mono ?_
  rintro e w7 ⟨j, Lj, hSj, hPj, rfl, L7⟩
  have hLj := sums_unique HG.out hSj HS.out
  subst hLj
  have HL7 : Hid (Below w.heap.size w w7) := HL6.out.trans (L7.mono HL6.out.size)
  have HK7 : w7.heap[B]? = some (.cells (fvals Lj).toArray 29 (0, 0)) := L7.cells HK6.out
  obtain ⟨i1, i2⟩ := place_pos HG.out HS.out (by omega) HPi.out
  obtain ⟨j1, j2⟩ := place_pos HG.out HS.out (by omega) hPj
  have hlen := HF.out.len
  have hfl : Hid (Fl w7 (some ⟨B, 0, none⟩) n Lj) := fl_new HK7 HLn.out hs
  have HM : Hid (p / 2048 ≤ q / 2048 → i ≤ j) := fun h => place_mono HG.out HS.out (by omega) (by omega) h HPi.out hPj
  have gi := gt_weight HG.out i1 i2
  have gj := gt_weight HG.out j1 j2
  have u1 : (FloatKind.f64.format.order (Lj.getD i 0) (unit (p / 2048)) == some .gt) = true := HPi.out.2.1
  have u2 : ∀ k, k < i → (FloatKind.f64.format.order (Lj.getD k 0) (unit (p / 2048)) == some .gt) = false := HPi.out.2.2
  obtain ⟨b, o, hab, hc⟩ := (HF.out.of_below HL7.out).cap i (by omega)
  have ci := hc i (by omega)
  have cj := hc j (by omega)
  have di := cell_fl HK7 i (by have := HLn.out; omega)
  have dk : ∀ k, k < i → w7.cell? ⟨B, k, none⟩ = some (.float .f64 (Lj.getD k 0)) := fun k hk => cell_fl HK7 k (by have := HLn.out; omega)
  have hU := fun W => unit_any p W hp
  rw [hlen] at i1 j1
  subst hab
  clear HK7 L7 hSj hPj HPi HK6 HR6 HL6 hc hlen HG HS HLn HF HD i2 j2
  obtain ⟨zi, hzi⟩ : ∃ z, zs.getD i 0 = z := ⟨_, rfl⟩
  obtain ⟨zj, hzj⟩ : ∃ z, zs.getD j 0 = z := ⟨_, rfl⟩
  obtain ⟨yi, hyi⟩ : ∃ z, Lj.getD i 0 = z := ⟨_, rfl⟩
  obtain ⟨u, hu⟩ : ∃ z, unit (p / 2048) = z := ⟨_, rfl⟩
  rw [hzi] at ci gi
  rw [hzj] at cj gj
  rw [hyi] at di u1
  rw [hu] at u1 u2 hU
  clear hzi hzj hyi hu
  by_cases hi0 : i = 0
  · subst hi0
    rw [Nat.add_zero] at ci
    clear dk u2
    go_wp2_with fail
    go_quiet (exact Calls.quiet_of_same (hU _))
    have HB : Hid (Below w.heap.size w (w7.drewN nq)) := below_drewN HL7.out nq
    have HR : Hid (∀ c, Calls Try.prog 31 #[.slice (some ⟨B, 0, none⟩) n c] (w7.drewN nq) fun e w' => w' = w7.drewN nq ∧ ∃ r, e = .returned (.bool r)) := fun c => rises_any _ n c Lj _ (hfl.out.drew nq)
    obtain ⟨w8, hw8⟩ : ∃ W, w7.drewN nq = W := ⟨_, rfl⟩
    rw [hw8] at HB HR ⊢
    clear hw8 hU ci cj di u1 gi gj
    by_cases hpq : (q : Int) / 2048 < (p : Int) / 2048
    · go_wp2_with fail
      go_ret
      exact ⟨rfl, HB.out⟩
    · have hij := HM.out (by omega)
      go_wp2_with fail
      refine (HR.out n).mono ?_
      rintro e w9 ⟨rfl, r, rfl⟩
      cases r
      · go_wp2_with fail
        go_ret
        exact ⟨rfl, HB.out⟩
      · go_wp2_with fail
        go_ret
        exact ⟨rfl, HB.out⟩
  · have dk1 := dk (i - 1) (by omega)
    have uk1 := u2 (i - 1) (by omega)
    obtain ⟨yk, hyk⟩ : ∃ z, Lj.getD (i - 1) 0 = z := ⟨_, rfl⟩
    rw [hyk] at dk1 uk1
    obtain ⟨k, rfl⟩ : ∃ k, i = k + 1 := ⟨i - 1, by omega⟩
    rw [Nat.add_sub_cancel] at dk1
    clear dk u2 hyk hi0
    go_wp2_with fail
    go_quiet (exact Calls.quiet_of_same (hU _))
    have HB : Hid (Below w.heap.size w (w7.drewN nq)) := below_drewN HL7.out nq
    have HR : Hid (∀ c, Calls Try.prog 31 #[.slice (some ⟨B, 0, none⟩) n c] (w7.drewN nq) fun e w' => w' = w7.drewN nq ∧ ∃ r, e = .returned (.bool r)) := fun c => rises_any _ n c Lj _ (hfl.out.drew nq)
    obtain ⟨w8, hw8⟩ : ∃ W, w7.drewN nq = W := ⟨_, rfl⟩
    rw [hw8] at HB HR ⊢
    clear hw8 hU ci cj di u1 gi gj dk1 uk1
    by_cases hpq : (q : Int) / 2048 < (p : Int) / 2048
    · go_wp2_with fail
      go_ret
      exact ⟨rfl, HB.out⟩
    · have hij := HM.out (by omega)
      go_wp2_with fail
      refine (HR.out n).mono ?_
      rintro e w9 ⟨rfl, r, rfl⟩
      cases r
      · go_wp2_with fail
        go_ret
        exact ⟨rfl, HB.out⟩
      · go_wp2_with fail
        go_ret
        refine ⟨?_, HB.out⟩
        show Ending.returned (.bool (decide ((k : Int) + 1 ≤ (j : Int)))) = _
        rw [decide_eq_true (by omega)]
theorem places_walk (a : Option Addr) (n cap : Nat) (zs : List Nat) (p q : Int) (w : World) (hF : Fl w a n zs) (hb : a = none → cap = 0) (h : 0 ≤ p ∧ p ≤ 18446744073709551615) (h2 : 0 ≤ q ∧ q ≤ 18446744073709551615) :
    Calls Try.prog 6 #[.slice a n cap, .int .u64 p, .int .u64 q] w fun e w' => e = .returned (.bool true) ∧ Below w.heap.size w w' := by
  obtain ⟨m, rfl⟩ := Int.eq_ofNat_of_zero_le h.1
  obtain ⟨k, rfl⟩ := Int.eq_ofNat_of_zero_le h2.1
  by_cases hG : Good zs
  · exact places_ok a n cap zs m k w (by omega) (by omega) hF hb hG
  · exact places_no a n cap zs m k w (by omega) (by omega) hF hb hG
end Go.Proofs.Ytfolfeaednmcoaa
