import Derived.Test.YtmljljpldljpjaaBndI
import Derived.Test.YtmljljpldljpjaaMa
import Derived.Test.YtmljljpldljpjaaLi
import Derived.BigQuiet
import Derived.Deep.RegionHeld3
import Derived.StringKeys
/-
  Depths of splits: plain.
-/
namespace Go.Proofs.Ytmljljpldljpjaa
open Go.RowKit
set_option linter.unusedVariables false
set_option linter.unusedSimpArgs false
abbrev Ky := Int × ByteArray
/-- the targets of a key's resource -/
def tgF (C : List Rs) (k : Ky) : List Tg := match firstsF C k with | some i => (match C[i]? with | some r => r.tgs | none => []) | none => []
/-- the greatest of so many, and nought if one is -/
def mxF (f : Ky → Nat) : List Tg → Nat → Nat
  | [], d => d + 1
  | t :: l, d => if (namF t).1 = 2 then (if f (namF t) = 0 then 0 else mxF f l (max d (f (namF t)))) else mxF f l d
/-- the depth of a split, as far as so many rounds find it; 0: they do not -/
def dR (C : List Rs) : Nat → Ky → Nat
  | 0, _ => 0
  | r + 1, k => mxF (dR C r) (tgF C k) 0
theorem mxF_pos {f : Ky → Nat} : ∀ {l : List Tg} {d : Nat}, mxF f l d ≠ 0 → d < mxF f l d ∧ ∀ t ∈ l, (namF t).1 = 2 → f (namF t) ≠ 0 ∧ f (namF t) < mxF f l d
  | [], d, _ => ⟨by simp [mxF], fun t ht => by cases ht⟩
  | t :: l, d, h => by
    unfold mxF at h ⊢
    by_cases h2 : (namF t).1 = 2
    · rw [if_pos h2] at h ⊢
      by_cases h0 : f (namF t) = 0
      · rw [if_pos h0] at h; exact absurd rfl h
      · rw [if_neg h0] at h ⊢
        obtain ⟨h3, h4⟩ := mxF_pos h
        refine ⟨by omega, fun u hu hu2 => ?_⟩
        rcases List.mem_cons.1 hu with rfl | hu
        · exact ⟨h0, by omega⟩
        · exact h4 u hu hu2
    · rw [if_neg h2] at h ⊢
      obtain ⟨h3, h4⟩ := mxF_pos h
      refine ⟨h3, fun u hu hu2 => ?_⟩
      rcases List.mem_cons.1 hu with rfl | hu
      · exact absurd hu2 h2
      · exact h4 u hu hu2
theorem mxF_le {f : Ky → Nat} {b : Nat} : ∀ {l : List Tg} {d : Nat}, d ≤ b → (∀ t ∈ l, (namF t).1 = 2 → f (namF t) ≤ b) → mxF f l d ≤ b + 1
  | [], d, h, _ => by simp [mxF]; exact h
  | t :: l, d, h, hf => by
    unfold mxF
    by_cases h2 : (namF t).1 = 2
    · rw [if_pos h2]
      by_cases h0 : f (namF t) = 0
      · rw [if_pos h0]; exact Nat.zero_le _
      · rw [if_neg h0]; exact mxF_le (by have := hf t (by simp) h2; omega) (fun u hu => hf u (by simp [hu]))
    · rw [if_neg h2]; exact mxF_le h (fun u hu => hf u (by simp [hu]))
theorem mxF_congr {f g : Ky → Nat} : ∀ {l : List Tg} {d : Nat}, (∀ t ∈ l, (namF t).1 = 2 → f (namF t) = g (namF t)) → mxF f l d = mxF g l d
  | [], d, _ => rfl
  | t :: l, d, h => by
    unfold mxF
    by_cases h2 : (namF t).1 = 2
    · rw [if_pos h2, if_pos h2, h t (by simp) h2]
      by_cases h0 : g (namF t) = 0
      · rw [if_pos h0, if_pos h0]
      · rw [if_neg h0, if_neg h0]; exact mxF_congr (fun u hu => h u (by simp [hu]))
    · rw [if_neg h2, if_neg h2]; exact mxF_congr (fun u hu => h u (by simp [hu]))
theorem mxF_zero {f : Ky → Nat} : ∀ {l : List Tg} {d : Nat} {t : Tg}, t ∈ l → (namF t).1 = 2 → f (namF t) = 0 → mxF f l d = 0
  | u :: l, d, t, ht, h2, h0 => by
    unfold mxF
    rcases List.mem_cons.1 ht with rfl | ht
    · rw [if_pos h2, if_pos h0]
    · by_cases hu2 : (namF u).1 = 2
      · rw [if_pos hu2]
        by_cases hu0 : f (namF u) = 0
        · rw [if_pos hu0]
        · rw [if_neg hu0]; exact mxF_zero ht h2 h0
      · rw [if_neg hu2]; exact mxF_zero ht h2 h0
/-- what is known stays -/
theorem dR_le (C : List Rs) : ∀ (r : Nat) (k : Ky), dR C r k ≤ r
  | 0, _ => Nat.le_refl _
  | r + 1, k => by
    show mxF (dR C r) (tgF C k) 0 ≤ r + 1
    exact mxF_le (Nat.zero_le _) (fun t _ _ => dR_le C r (namF t))
theorem dR_step (C : List Rs) : ∀ (r : Nat) (k : Ky), dR C r k ≠ 0 → dR C (r + 1) k = dR C r k
  | 0, k, h => absurd rfl h
  | r + 1, k, h => by
    show mxF (dR C (r + 1)) (tgF C k) 0 = mxF (dR C r) (tgF C k) 0
    obtain ⟨_, h2⟩ := mxF_pos (show mxF (dR C r) (tgF C k) 0 ≠ 0 from h)
    exact mxF_congr (fun t ht h3 => dR_step C r (namF t) (h2 t ht h3).1)
theorem dR_mono (C : List Rs) {r s : Nat} (hrs : r ≤ s) {k : Ky} (h : dR C r k ≠ 0) : dR C s k = dR C r k := by
  induction s with
  | zero => obtain rfl : r = 0 := by omega
            exact absurd rfl h
  | succ s ih =>
    by_cases e : r = s + 1
    · rw [e]
    · have := ih (by omega)
      rw [dR_step C s k (by rw [this]; exact h), this]
/-- the depth -/
def Dep (C : List Rs) (k : Ky) (d : Nat) : Prop := d ≠ 0 ∧ ∃ r, dR C r k = d
def Endl (C : List Rs) (k : Ky) : Prop := ∀ r, dR C r k = 0
theorem Dep.one {C : List Rs} {k : Ky} {d e : Nat} (h : Dep C k d) (g : Dep C k e) : d = e := by
  obtain ⟨h0, r, hr⟩ := h
  obtain ⟨g0, s, hs⟩ := g
  by_cases hrs : r ≤ s
  · rw [← hr, ← hs, dR_mono C hrs (by rw [hr]; exact h0)]
  · rw [← hr, ← hs, dR_mono C (by omega : s ≤ r) (by rw [hs]; exact g0)]
theorem Dep.at_ {C : List Rs} {k : Ky} {d : Nat} (h : Dep C k d) : dR C d k = d := by
  obtain ⟨h0, r, hr⟩ := h
  have : ∀ (r : Nat) (k : Ky) (d : Nat), d ≠ 0 → dR C r k = d → dR C d k = d := by
    intro r
    induction r with
    | zero => intro k d h0 h; exact absurd h.symm h0
    | succ r ih =>
      intro k d h0 h
      have h' : mxF (dR C r) (tgF C k) 0 = d := h
      obtain ⟨_, h2⟩ := mxF_pos (show mxF (dR C r) (tgF C k) 0 ≠ 0 by rw [h']; exact h0)
      cases d with
      | zero => exact absurd rfl h0
      | succ d =>
        show mxF (dR C d) (tgF C k) 0 = d + 1
        rw [← h']
        refine mxF_congr (fun t ht h3 => ?_)
        obtain ⟨h4, h5⟩ := h2 t ht h3
        rw [h'] at h5
        have h6 := ih (namF t) _ h4 rfl
        by_cases e : dR C r (namF t) ≤ d
        · rw [dR_mono C e (by rw [h6]; exact h4), h6]
        · omega
  exact this r k d h0 hr
/-- a split and one that it names -/
def Edge (C : List Rs) (k l : Ky) : Prop := ∃ t ∈ tgF C k, namF t = l ∧ l.1 = 2
theorem Edge.lt {C : List Rs} {k l : Ky} {d : Nat} (h : Edge C k l) (hd : Dep C k d) : ∃ e, Dep C l e ∧ e < d := by
  obtain ⟨t, ht, rfl, h2⟩ := h
  obtain ⟨h0, r, hr⟩ := hd
  cases r with
  | zero => exact absurd hr.symm h0
  | succ r =>
    have h' : mxF (dR C r) (tgF C k) 0 = d := hr
    obtain ⟨_, h3⟩ := mxF_pos (show mxF (dR C r) (tgF C k) 0 ≠ 0 by rw [h']; exact h0)
    obtain ⟨h4, h5⟩ := h3 t ht h2
    exact ⟨_, ⟨h4, r, rfl⟩, by rw [h'] at h5; exact h5⟩
inductive Path (C : List Rs) : Ky → Ky → Prop
  | one {k l : Ky} : Edge C k l → Path C k l
  | more {k l m : Ky} : Path C k l → Edge C l m → Path C k m
theorem Path.lt {C : List Rs} {k l : Ky} (h : Path C k l) : ∀ {d : Nat}, Dep C k d → ∃ e, Dep C l e ∧ e < d := by
  induction h with
  | one h => intro d hd; exact h.lt hd
  | more h1 h2 ih =>
    intro d hd
    obtain ⟨e, he, hlt⟩ := ih hd
    obtain ⟨f, hf, hlt2⟩ := h2.lt he
    exact ⟨f, hf, by omega⟩
theorem endl_or (C : List Rs) (k : Ky) : Endl C k ∨ ∃ d, Dep C k d := by
  by_cases h : ∃ r, dR C r k ≠ 0
  · obtain ⟨r, hr⟩ := h; exact .inr ⟨_, hr, r, rfl⟩
  · exact .inl fun r => Classical.not_not.1 fun h' => h ⟨r, h'⟩
theorem Path.ring {C : List Rs} {k : Ky} (h : Path C k k) : Endl C k := by
  rcases endl_or C k with h1 | ⟨d, hd⟩
  · exact h1
  · obtain ⟨e, he, hlt⟩ := h.lt hd
    have := he.one hd; omega
theorem Edge.endl {C : List Rs} {k l : Ky} (h : Edge C k l) (hl : Endl C l) : Endl C k := by
  rcases endl_or C k with h1 | ⟨d, hd⟩
  · exact h1
  · obtain ⟨e, ⟨he, r, hr⟩, _⟩ := h.lt hd
    rw [hl r] at hr; exact absurd hr.symm he
/-- of a split all of whose splits have a depth -/
theorem dep_of {C : List Rs} {k : Ky} {g : Ky → Nat} (hg : ∀ t ∈ tgF C k, (namF t).1 = 2 → Dep C (namF t) (g (namF t))) : Dep C k (mxF g (tgF C k) 0) := by
  have hb : ∃ b, ∀ t ∈ tgF C k, (namF t).1 = 2 → g (namF t) ≤ b := by
    generalize tgF C k = l
    induction l with
    | nil => exact ⟨0, fun t ht => by cases ht⟩
    | cons u l ih =>
      obtain ⟨b, hb⟩ := ih
      refine ⟨max b (g (namF u)), fun t ht h2 => ?_⟩
      rcases List.mem_cons.1 ht with rfl | ht
      · exact Nat.le_max_right _ _
      · exact Nat.le_trans (hb t ht h2) (Nat.le_max_left _ _)
  obtain ⟨b, hb⟩ := hb
  have hne : ∀ (l : List Tg) (d : Nat), (∀ t ∈ l, (namF t).1 = 2 → g (namF t) ≠ 0) → mxF g l d ≠ 0 := by
    intro l
    induction l with
    | nil => intro d _; simp [mxF]
    | cons u l ih =>
      intro d h
      unfold mxF
      by_cases h2 : (namF u).1 = 2
      · rw [if_pos h2, if_neg (h u (by simp) h2)]; exact ih _ (fun t ht => h t (by simp [ht]))
      · rw [if_neg h2]; exact ih _ (fun t ht => h t (by simp [ht]))
  refine ⟨hne _ _ (fun t ht h2 => (hg t ht h2).1), b + 1, ?_⟩
  show mxF (dR C b) (tgF C k) 0 = _
  refine mxF_congr (fun t ht h2 => ?_)
  have h3 := (hg t ht h2).at_
  have h4 := dR_mono C (r := g (namF t)) (s := b) (hb t ht h2) (k := namF t) (by rw [h3]; exact (hg t ht h2).1)
  rw [h4, h3]
end Go.Proofs.Ytmljljpldljpjaa

/-
  The document's dangling.
-/
namespace Go.Proofs.Ytmljljpldljpjaa
open Go.RowKit
set_option linter.unusedVariables false
set_option linter.unusedSimpArgs false
set_option maxRecDepth 100000
/-- what the document's dangling tells -/
def danI (o : Option Nat) : Int := match o with | some k => (k : Int) | none => -1
theorem findI_lt (C : List Rs) (k : Int × ByteArray) : decide (findI C k < 0) = (firstsF C k).isNone := by
  unfold findI
  cases firstsF C k with
  | none => rfl
  | some i => simp
set_option maxHeartbeats 32000000 in
theorem rdangling_any (w : World) (a : Option Addr) (n c : Nat) (os : List Rx) (o : Rx) (hL : Lr w a os) (hn : os.length = n) (hs : n ≤ 4194304) (ho : Rin w o) :
    Calls Try.prog 33 #[.slice a n c, .agg #[.int .i64 o.kd, .string o.nm, .slice o.ea o.eps.length o.ec, .slice o.ta o.tgs.length o.tc, .string o.host, .slice o.ra o.rus.length o.rc, .string o.route, .bool o.del]] w fun e w' => e = .returned (.int .i64 (danI (looF (os.map Rx.toRs) o.toRs))) ∧ Gr w w' := by
  have HO := hideL ho
  have HL := hideL hL
  have HN := hideL hn
  have HLT := hideL ho.lt
  have HLR := hideL ho.lr
  clear ho hL hn
  obtain ⟨w1, hw1⟩ : ∃ X, w.alloc (boxO o) = X := ⟨_, rfl⟩
  have HG1 : Hid (Gr w w1) := by rw [← hw1]; exact Gr.alloc _ _
  have HX1 : Hid (w1.heap[w.heap.size]? = some (boxO o)) := by rw [← hw1]; exact heap_alloc_new w _
  unfold boxO at hw1
  obtain ⟨e0, e1, e2, e3, e4, e5, e6, e7⟩ := box8 HX1.out
  obtain ⟨A, hA⟩ : ∃ A, looF (os.map Rx.toRs) o.toRs = A := ⟨_, rfl⟩
  have HA := hideL hA
  rw [hA]
  clear hA
  unfold looF at HA
  have HFD : Hid (∀ (W : World) (kd : Int) (nm : ByteArray), Gr w W → Calls Try.prog 28 #[.slice a n c, .int .i64 kd, .string nm] W fun e w' => e = .returned (.int .i64 (findI (os.map Rx.toRs) (kd, nm))) ∧ w' = W) := fun W kd nm hW => find_any W a n c os kd nm HN.out hs (HL.out.row.below hW.below)
  obtain ⟨B, hB⟩ : ∃ X, w.heap.size = X := ⟨_, rfl⟩
  rw [hB] at HX1 e0 e1 e2 e3 e4 e5 e6 e7
  go_enter Try.func33, Try.ntmps33
  by_cases h2 : o.kd = 2
  · rw [if_pos h2] at HA
    have hk2 : (o.kd == 2) = true := by simp [h2]
    have hk3 : (o.kd == 3) = false := by simp [h2]
    have hk4 : (o.kd == 4) = false := by simp [h2]
    have hn0 : o.tgs.length ≤ 1048576 := HLT.out
    clear h2
    go_wp2_with fail
    go_loopw [5] (fun t wr => ∃ (i : Nat), t = .int .i64 i ∧ i ≤ o.tgs.length ∧ Gr w1 wr ∧ Hid (∀ (j : Nat) (y : Tg), j < i → o.tgs[j]? = some y → (firstsF (os.map Rx.toRs) (namF y)).isNone = false)) (fun t _ => o.tgs.length - (intOf t).toNat)
    case atStart => exact ⟨0, rfl, by omega, Gr.refl _, fun j y hj => by omega⟩
    case round =>
      obtain ⟨i, rfl, hi, hgr, HF⟩ := hrel
      have HG := hideL hgr
      clear hgr
      have i0 : (0 : Int) ≤ i := by omega
      obtain ⟨x0, -, -, x3, -, x5, -⟩ := box8 (HG.out.below.cells HX1.out)
      by_cases h3 : i < o.tgs.length
      · have h3' : (i : Int) < o.tgs.length := by omega
        rcases hki : o.tgs[i]? with _ | t
        · have := List.getElem?_eq_none_iff.1 hki; omega
        obtain ⟨g, off, hta, c0, c1, c2⟩ := (HO.out.ts.below (HG1.out.trans HG.out).below).tcells hki
        have HKI := hideL hki
        rw [hta] at x3
        clear hki e3 hta
        obtain ⟨w3, hw3⟩ : ∃ X, wr.alloc (.cells #[.string t.sv, .string t.sp, .float .f64 t.wt] 57 (0, 0)) = X := ⟨_, rfl⟩
        have HG3 : Hid (Gr wr w3) := by rw [← hw3]; exact Gr.alloc _ _
        obtain ⟨b0, b1, b2⟩ : w3.cell? ⟨wr.heap.size, 0, none⟩ = some (.string t.sv) ∧ w3.cell? ⟨wr.heap.size, 1, none⟩ = some (.string t.sp) ∧ w3.cell? ⟨wr.heap.size, 2, none⟩ = some (.float .f64 t.wt) := by
          rw [← hw3]
          refine ⟨?_, ?_, ?_⟩ <;> (rw [cell_block (heap_alloc_new wr _)]; rfl)
        have HGW := hideL ((HG1.out.trans HG.out).trans HG3.out)
        have st := st_float
        obtain ⟨bb, hbb⟩ : ∃ bb, (firstsF (os.map Rx.toRs) (namF t)).isNone = bb := ⟨_, rfl⟩
        have HBB := hideL hbb
        have HNX : Hid (bb = false → ∀ (j : Nat) (y : Tg), j < i + 1 → o.tgs[j]? = some y → (firstsF (os.map Rx.toRs) (namF y)).isNone = false) := fun hb j y hj hy => by
          by_cases hji : j < i
          · exact HF.out j y hji hy
          · obtain rfl : j = i := by omega
            rw [HKI.out] at hy; cases hy; rw [HBB.out]; exact hb
        have HRR : Hid (bb = true → A = some (i + 1)) := fun hb => by rw [← HA.out]; exact first1_at HF.out HKI.out (by rw [HBB.out]; exact hb)
        cases he : t.sv.toList.isEmpty
        · have hnk : namF t = (1, t.sv) := by unfold namF; rw [if_neg (fun h => by rw [h] at he; simp [ByteArray.toList_eq] at he)]
          have hfi := findI_lt (os.map Rx.toRs) (1, t.sv)
          rw [← hnk, hbb, hnk] at hfi
          have HCL := hideL (HFD.out w3 1 t.sv HGW.out)
          generalize findI (os.map Rx.toRs) (1, t.sv) = z at hfi HCL
          clear hbb hnk
          cases bb
          · have HR := hideL (HNX.out rfl)
            go_wp2_with (go_at_call 28; refine HCL.out.mono ?_; rintro e w4 ⟨rfl, hw⟩; have hw := hw.symm; subst hw)
            go_roundw
            case rel => exact ⟨i + 1, by go_num, by omega, HG.out.trans HG3.out, HR.out⟩
            case measure => simp [intOf]; omega
          · have HR := hideL (HRR.out rfl)
            go_wp2_with (go_at_call 28; refine HCL.out.mono ?_; rintro e w4 ⟨rfl, hw⟩; have hw := hw.symm; subst hw)
            go_ret
            exact ⟨by rw [HR.out]; simp [danI], HGW.out⟩
        · have hnk : namF t = (2, t.sp) := by unfold namF; rw [if_pos (ba_toList_inj (by rw [List.isEmpty_iff.1 he]; simp [ByteArray.toList_eq]))]
          have hfi := findI_lt (os.map Rx.toRs) (2, t.sp)
          rw [← hnk, hbb, hnk] at hfi
          have HCL := hideL (HFD.out w3 2 t.sp HGW.out)
          generalize findI (os.map Rx.toRs) (2, t.sp) = z at hfi HCL
          clear hbb hnk
          cases bb
          · have HR := hideL (HNX.out rfl)
            go_wp2_with (go_at_call 28; refine HCL.out.mono ?_; rintro e w4 ⟨rfl, hw⟩; have hw := hw.symm; subst hw)
            go_roundw
            case rel => exact ⟨i + 1, by go_num, by omega, HG.out.trans HG3.out, HR.out⟩
            case measure => simp [intOf]; omega
          · have HR := hideL (HRR.out rfl)
            go_wp2_with (go_at_call 28; refine HCL.out.mono ?_; rintro e w4 ⟨rfl, hw⟩; have hw := hw.symm; subst hw)
            go_ret
            exact ⟨by rw [HR.out]; simp [danI], HGW.out⟩
      · have h3' : ¬ (i : Int) < o.tgs.length := by omega
        have HR : Hid (A = none) := by
          unfold Hid; rw [← HA.out]
          exact first1_no (fun j y hy => HF.out j y (by have := (List.getElem?_eq_some_iff.1 hy).1; omega) hy)
        go_wp2
        go_ret
        exact ⟨by rw [HR.out]; rfl, HG1.out.trans HG.out⟩
  · rw [if_neg h2] at HA
    have hk2 : (o.kd == 2) = false := by simpa using h2
    by_cases h3 : o.kd = 3
    · rw [if_pos h3] at HA
      have hk3 : (o.kd == 3) = true := by simp [h3]
      have hk4 : (o.kd == 4) = false := by simp [h3]
      have hn0 : o.rus.length ≤ 1048576 := HLR.out
      clear h2 h3
      go_wp2_with fail
      go_loopw [7] (fun t wr => ∃ (i : Nat), t = .int .i64 i ∧ i ≤ o.rus.length ∧ Gr w1 wr ∧ Hid (∀ (j : Nat) (y : Ru), j < i → o.rus[j]? = some y → (firstsF (os.map Rx.toRs) (2, y.sp)).isNone = false)) (fun t _ => o.rus.length - (intOf t).toNat)
      case atStart => exact ⟨0, rfl, by omega, Gr.refl _, fun j y hj => by omega⟩
      case round =>
        obtain ⟨i, rfl, hi, hgr, HF⟩ := hrel
        have HG := hideL hgr
        clear hgr
        have i0 : (0 : Int) ≤ i := by omega
        obtain ⟨x0, -, -, x3, -, x5, -⟩ := box8 (HG.out.below.cells HX1.out)
        by_cases h4 : i < o.rus.length
        · have h4' : (i : Int) < o.rus.length := by omega
          rcases hki : o.rus[i]? with _ | t
          · have := List.getElem?_eq_none_iff.1 hki; omega
          obtain ⟨g, off, hta, c0, c1, c2, c3⟩ := (HO.out.rs.below (HG1.out.trans HG.out).below).rcells hki
          have HKI := hideL hki
          rw [hta] at x5
          have HGW := hideL (HG1.out.trans HG.out)
          clear hki e5 hta
          obtain ⟨bb, hbb⟩ : ∃ bb, (firstsF (os.map Rx.toRs) (2, t.sp)).isNone = bb := ⟨_, rfl⟩
          have HBB := hideL hbb
          have hfi := findI_lt (os.map Rx.toRs) (2, t.sp)
          rw [hbb] at hfi
          have HCL := hideL (HFD.out wr 2 t.sp HGW.out)
          generalize findI (os.map Rx.toRs) (2, t.sp) = z at hfi HCL
          clear hbb
          cases bb
          · go_wp2_with (go_at_call 28; refine HCL.out.mono ?_; rintro e w4 ⟨rfl, hw⟩; have hw := hw.symm; subst hw)
            go_roundw
            case rel => exact ⟨i + 1, by go_num, by omega, HG.out, fun j y hj hy => by
              by_cases hji : j < i
              · exact HF.out j y hji hy
              · obtain rfl : j = i := by omega
                rw [HKI.out] at hy; cases hy; exact HBB.out⟩
            case measure => simp [intOf]; omega
          · have HR : Hid (A = some (i + 1)) := by unfold Hid; rw [← HA.out]; exact first1_at HF.out HKI.out HBB.out
            go_wp2_with (go_at_call 28; refine HCL.out.mono ?_; rintro e w4 ⟨rfl, hw⟩; have hw := hw.symm; subst hw)
            go_ret
            exact ⟨by rw [HR.out]; simp [danI], HGW.out⟩
        · have h4' : ¬ (i : Int) < o.rus.length := by omega
          have HR : Hid (A = none) := by
            unfold Hid; rw [← HA.out]
            exact first1_no (fun j y hy => HF.out j y (by have := (List.getElem?_eq_some_iff.1 hy).1; omega) hy)
          go_wp2
          go_ret
          exact ⟨by rw [HR.out]; rfl, HG1.out.trans HG.out⟩
    · rw [if_neg h3] at HA
      have hk3 : (o.kd == 3) = false := by simpa using h3
      by_cases h4 : o.kd = 4
      · rw [if_pos h4] at HA
        have hk4 : (o.kd == 4) = true := by simp [h4]
        have hfi := findI_lt (os.map Rx.toRs) (3, o.route)
        obtain ⟨bb, hbb⟩ : ∃ bb, (firstsF (os.map Rx.toRs) (3, o.route)).isNone = bb := ⟨_, rfl⟩
        rw [hbb] at hfi
        have HBB := hideL hbb
        have HCL := hideL (HFD.out w1 3 o.route HG1.out)
        generalize findI (os.map Rx.toRs) (3, o.route) = z at hfi HCL
        clear h2 h3 h4 hbb
        cases bb
        · have HR : Hid (A = none) := by
            unfold Hid; rw [← HA.out, if_neg]
            intro h; have := HBB.out; rw [h] at this; cases this
          go_wp2_with (go_at_call 28; refine HCL.out.mono ?_; rintro e w4 ⟨rfl, hw⟩; have hw := hw.symm; subst hw)
          go_ret
          exact ⟨by rw [HR.out]; rfl, HG1.out⟩
        · have HR : Hid (A = some 0) := by
            unfold Hid; rw [← HA.out, if_pos]
            exact Option.isNone_iff_eq_none.1 HBB.out
          go_wp2_with (go_at_call 28; refine HCL.out.mono ?_; rintro e w4 ⟨rfl, hw⟩; have hw := hw.symm; subst hw)
          go_ret
          exact ⟨by rw [HR.out]; rfl, HG1.out⟩
      · rw [if_neg h4] at HA
        have hk4 : (o.kd == 4) = false := by simpa using h4
        have HR := hideL HA.out.symm
        clear h2 h3 h4
        go_wp2
        go_ret
        exact ⟨by rw [HR.out]; rfl, HG1.out⟩
end Go.Proofs.Ytmljljpldljpjaa

/-
  What is found of depths, as it grows: plain; and the memory beside one map.
-/
namespace Go.Proofs.Ytmljljpldljpjaa
open Go.RowKit
set_option linter.unusedVariables false
set_option linter.unusedSimpArgs false
/-- how many splits are not found yet -/
def cntF (C : List Rs) (f : Ky → Option Nat) : Nat := C.countP (fun r => decide (r.kd = 2) && (f r.key).isNone)
def Ext (f g : Ky → Option Nat) : Prop := ∀ x v, f x = some v → g x = some v
theorem Ext.refl (f : Ky → Option Nat) : Ext f f := fun _ _ h => h
theorem Ext.trans {f g h : Ky → Option Nat} (a : Ext f g) (b : Ext g h) : Ext f h := fun x v e => b x v (a x v e)
theorem ext_set {f : Ky → Option Nat} {k : Ky} (h : f k = none) (v : Nat) : Ext f (setF f k v) := fun x u e => by
  unfold setF
  by_cases hx : x = k
  · subst hx; rw [h] at e; cases e
  · rw [if_neg hx]; exact e
theorem setF_same (f : Ky → Option Nat) (k : Ky) (v : Nat) : setF f k v k = some v := by unfold setF; rw [if_pos rfl]
theorem setF_ne (f : Ky → Option Nat) {k x : Ky} (v : Nat) (h : x ≠ k) : setF f k v x = f x := by unfold setF; rw [if_neg h]
theorem countP_le {p q : Rs → Bool} : ∀ (l : List Rs), (∀ r ∈ l, p r = true → q r = true) → l.countP p ≤ l.countP q
  | [], _ => Nat.le_refl _
  | r :: l, h => by
    rw [List.countP_cons, List.countP_cons]
    have := countP_le l (fun x hx => h x (by simp [hx]))
    have h0 := h r (by simp)
    cases hp : p r
    · simp; omega
    · rw [h0 hp]; simp; omega
theorem countP_lt {p q : Rs → Bool} : ∀ {l : List Rs} {x : Rs}, (∀ r ∈ l, p r = true → q r = true) → x ∈ l → p x = false → q x = true → l.countP p + 1 ≤ l.countP q
  | r :: l, x, h, hx, h1, h2 => by
    rw [List.countP_cons, List.countP_cons]
    rcases List.mem_cons.1 hx with rfl | hx
    · have := countP_le l (fun y hy => h y (by simp [hy]))
      rw [h1, h2]; simp; omega
    · have := countP_lt (fun y hy => h y (by simp [hy])) hx h1 h2
      have h0 := h r (by simp)
      cases hp : p r
      · simp; omega
      · rw [h0 hp]; simp; omega
theorem cnt_ext {C : List Rs} {f g : Ky → Option Nat} (h : Ext f g) : cntF C g ≤ cntF C f := by
  refine countP_le C fun r _ hp => ?_
  rw [Bool.and_eq_true] at hp ⊢
  refine ⟨hp.1, ?_⟩
  cases hf : f r.key with
  | none => rfl
  | some v => rw [h _ v hf] at hp; cases hp.2
theorem cnt_set {C : List Rs} {f : Ky → Option Nat} {r : Rs} (hr : r ∈ C) (h2 : r.kd = 2) (h : f r.key = none) (v : Nat) : cntF C (setF f r.key v) + 1 ≤ cntF C f := by
  refine countP_lt (x := r) (fun x _ hp => ?_) hr (by simp [setF_same]) (by simp [h2, h])
  rw [Bool.and_eq_true] at hp ⊢
  refine ⟨hp.1, ?_⟩
  cases hf : f x.key with
  | none => rfl
  | some u => rw [ext_set h v _ u hf] at hp; cases hp.2
theorem cnt_put {C : List Rs} {f : Ky → Option Nat} {k : Ky} {u : Nat} (h : f k = some u) (v : Nat) : cntF C (setF f k v) = cntF C f := by
  unfold cntF
  congr 1
  funext r
  by_cases e : r.key = k
  · rw [e, setF_same, h]; rfl
  · rw [setF_ne f v e]
/-- what holds of all that is found, S being looked for -/
structure Fnd (C : List Rs) (n : Nat) (f : Ky → Option Nat) (S : List Ky) : Prop where
  dep : ∀ k d, f k = some d → d ≠ 0 → Dep C k d
  zero : ∀ k, f k = some 0 → k ∈ S ∨ Endl C k
  stk : ∀ s ∈ S, f s = some 0
  bd : ∀ x v, f x = some v → v + S.length + cntF C f ≤ n
  bd0 : S.length + cntF C f ≤ n
theorem Fnd.push {C : List Rs} {n : Nat} {f : Ky → Option Nat} {S : List Ky} {r : Rs} (h : Fnd C n f S) (hr : r ∈ C) (h2 : r.kd = 2) (hk : f r.key = none) : Fnd C n (setF f r.key 0) (r.key :: S) := by
  have hc := cnt_set hr h2 hk 0
  refine ⟨fun k d e h0 => ?_, fun k e => ?_, fun s hs => ?_, fun x v e => ?_, ?_⟩
  · by_cases hx : k = r.key
    · subst hx; rw [setF_same] at e; cases e; exact absurd rfl h0
    · rw [setF_ne f 0 hx] at e; exact h.dep k d e h0
  · by_cases hx : k = r.key
    · exact .inl (by simp [hx])
    · rw [setF_ne f 0 hx] at e
      rcases h.zero k e with h1 | h1
      · exact .inl (by simp [h1])
      · exact .inr h1
  · rcases List.mem_cons.1 hs with rfl | hs
    · exact setF_same _ _ _
    · exact ext_set hk 0 _ _ (h.stk s hs)
  · rw [List.length_cons]
    by_cases hx : x = r.key
    · subst hx; rw [setF_same] at e; cases e; have := h.bd0; omega
    · rw [setF_ne f 0 hx] at e; have := h.bd x v e; omega
  · rw [List.length_cons]; have := h.bd0; omega
theorem Fnd.pop {C : List Rs} {n : Nat} {f : Ky → Option Nat} {S : List Ky} {k : Ky} (h : Fnd C n f (k :: S)) (he : Endl C k) : Fnd C n f S := by
  refine ⟨h.dep, fun x e => ?_, fun s hs => h.stk s (by simp [hs]), fun x v e => ?_, ?_⟩
  · rcases h.zero x e with h1 | h1
    · rcases List.mem_cons.1 h1 with rfl | h1
      · exact .inr he
      · exact .inl h1
    · exact .inr h1
  · have := h.bd x v e; rw [List.length_cons] at this; omega
  · have := h.bd0; rw [List.length_cons] at this; omega
theorem Fnd.done {C : List Rs} {n : Nat} {f : Ky → Option Nat} {S : List Ky} {k : Ky} {d : Nat} (h : Fnd C n f (k :: S)) (hS : k ∉ S) (hd : Dep C k (d + 1)) (hb : d + (k :: S).length + cntF C f ≤ n) : Fnd C n (setF f k (d + 1)) S := by
  have hc : cntF C (setF f k (d + 1)) = cntF C f := cnt_put (h.stk k (by simp)) _
  rw [List.length_cons] at hb
  refine ⟨fun x e hx h0 => ?_, fun x e => ?_, fun s hs => ?_, fun x v e => ?_, ?_⟩
  · by_cases hxk : x = k
    · subst hxk; rw [setF_same] at hx; cases hx; exact hd
    · rw [setF_ne f _ hxk] at hx; exact h.dep x e hx h0
  · by_cases hxk : x = k
    · subst hxk; rw [setF_same] at e; cases e
    · rw [setF_ne f _ hxk] at e
      rcases h.zero x e with h1 | h1
      · rcases List.mem_cons.1 h1 with rfl | h1
        · exact absurd rfl hxk
        · exact .inl h1
      · exact .inr h1
  · have hsk : s ≠ k := fun e => hS (e ▸ hs)
    rw [setF_ne f _ hsk]; exact h.stk s (by simp [hs])
  · rw [hc]
    by_cases hxk : x = k
    · subst hxk; rw [setF_same] at e; cases e; omega
    · rw [setF_ne f _ hxk] at e; have := h.bd x v e; rw [List.length_cons] at this; omega
  · rw [hc]; omega
def gOf (f : Ky → Option Nat) (x : Ky) : Nat := (f x).getD 0
/-- so many of a split's targets have been looked at -/
structure Lkd (C : List Rs) (l : List Tg) (f : Ky → Option Nat) (j d : Nat) : Prop where
  mx : ∀ F, Ext f F → mxF (gOf F) l 0 = mxF (gOf F) (l.drop j) d
  has : ∀ (i : Nat) (t : Tg), i < j → l[i]? = some t → (namF t).1 = 2 → ∃ e, f (namF t) = some e ∧ e ≠ 0
theorem Lkd.zero (C : List Rs) (l : List Tg) (f : Ky → Option Nat) : Lkd C l f 0 0 := ⟨fun F _ => rfl, fun i t h => by omega⟩
theorem Lkd.skip {C : List Rs} {l : List Tg} {f : Ky → Option Nat} {j d : Nat} {t : Tg} (h : Lkd C l f j d) (ht : l[j]? = some t) (h2 : (namF t).1 ≠ 2) : Lkd C l f (j + 1) d := by
  obtain ⟨hj, e⟩ := List.getElem?_eq_some_iff.1 ht
  refine ⟨fun F hF => ?_, fun i u hi hu hu2 => ?_⟩
  · rw [h.mx F hF, List.drop_eq_getElem_cons hj, e]
    show (if (namF t).1 = 2 then _ else _) = _
    rw [if_neg h2]
  · by_cases hij : i < j
    · exact h.has i u hij hu hu2
    · obtain rfl : i = j := by omega
      rw [ht] at hu; cases hu; exact absurd hu2 h2
theorem Lkd.take {C : List Rs} {l : List Tg} {f g : Ky → Option Nat} {j d v : Nat} {t : Tg} (h : Lkd C l f j d) (ht : l[j]? = some t) (h2 : (namF t).1 = 2) (hx : Ext f g) (hv : g (namF t) = some v) (h0 : v ≠ 0) : Lkd C l g (j + 1) (max d v) := by
  obtain ⟨hj, e⟩ := List.getElem?_eq_some_iff.1 ht
  refine ⟨fun F hF => ?_, fun i u hi hu hu2 => ?_⟩
  · rw [h.mx F (hx.trans hF), List.drop_eq_getElem_cons hj, e]
    have hg : gOf F (namF t) = v := by unfold gOf; rw [hF _ _ hv]; rfl
    show (if (namF t).1 = 2 then (if gOf F (namF t) = 0 then 0 else mxF (gOf F) (l.drop (j + 1)) (max d (gOf F (namF t)))) else _) = _
    rw [if_pos h2, hg, if_neg h0]
  · by_cases hij : i < j
    · obtain ⟨e', he, h3⟩ := h.has i u hij hu hu2
      exact ⟨e', hx _ _ he, h3⟩
    · obtain rfl : i = j := by omega
      rw [ht] at hu; cases hu; exact ⟨v, hv, h0⟩
theorem Lkd.dep {C : List Rs} {k : Ky} {n : Nat} {f : Ky → Option Nat} {S : List Ky} {j d : Nat} (h : Lkd C (tgF C k) f j d) (hj : (tgF C k).length ≤ j) (hF : Fnd C n f S) : Dep C k (d + 1) := by
  have h1 := h.mx f (Ext.refl f)
  rw [List.drop_of_length_le hj] at h1
  have h2 : mxF (gOf f) (tgF C k) 0 = d + 1 := h1
  rw [← h2]
  refine dep_of fun t ht h3 => ?_
  obtain ⟨i, hi⟩ := List.getElem?_of_mem ht
  obtain ⟨e, he, h0⟩ := h.has i t (by have := (List.getElem?_eq_some_iff.1 hi).1; omega) hi h3
  have : gOf f (namF t) = e := by unfold gOf; rw [he]; rfl
  rw [this]
  exact hF.dep _ _ he h0
/-- but for a map's block: cells stay -/
theorem But.mcell {w w' : World} {m N : Nat} {f : Ky → Option Nat} (h : But m w w') (hm : Mp w m N f) {p : Addr} {v : Value} (hc : w.cell? p = some v) : w'.cell? p = some v := by
  have hne : p.block ≠ m := by
    intro e
    obtain ⟨D, ⟨es, clock, h2, _⟩, _⟩ := hm.ex
    rw [World.cell?, e, h2] at hc
    simp at hc
  have := h.block p.block (World.block_lt_of_cell? w _ hc) hne
  rw [World.cell?_of_block this]; exact hc
theorem Cel.but {w w' : World} {m N : Nat} {f : Ky → Option Nat} {a : Option Addr} {k : Nat} {rows : List (List Value)} (h : Cel w a k rows) (hb : But m w w') (hm : Mp w m N f) : Cel w' a k rows := by
  rcases h with h | ⟨g, off, h1, h2⟩
  · exact .inl h
  · exact .inr ⟨g, off, h1, fun i r hi j u hu => hb.mcell hm (h2 i r hi j u hu)⟩
theorem Lr.but {w w' : World} {m N : Nat} {f : Ky → Option Nat} {a : Option Addr} {os : List Rx} (h : Lr w a os) (hb : But m w w') (hm : Mp w m N f) : Lr w' a os :=
  ⟨fun o ho => let r := h.each o ho; ⟨r.es.but hb hm, r.ts.but hb hm, r.rs.but hb hm, r.k1, r.n1, r.n2, r.n3, r.se, r.st, r.sr, r.le, r.lt, r.lr⟩, h.row.but hb hm⟩
theorem but_grown {w w' : World} {m : Nat} (h : w.grownBy w' (some m)) : But m w w' := ⟨h.os, h.tape, h.output, h.size, fun j hj hne => h.block j hj (fun e => hne (by cases e; rfl))⟩
/-- all that depths.of reads -/
structure Env (w : World) (a : Option Addr) (os : List Rx) (M0 Np Mf N : Nat) (f : Ky → Option Nat) : Prop where
  lr : Lr w a os
  pl : Mp w M0 Np (firstsF (os.map Rx.toRs))
  fd : Mp w Mf N f
  ne : M0 ≠ Mf
theorem Env.but {w w' : World} {a : Option Addr} {os : List Rx} {M0 Np Mf N N' : Nat} {f g : Ky → Option Nat} (h : Env w a os M0 Np Mf N f) (hb : But Mf w w') (hg : Mp w' Mf N' g) : Env w' a os M0 Np Mf N' g :=
  ⟨h.lr.but hb h.fd, h.pl.keep (hb.block M0 h.pl.lt h.ne), hg, h.ne⟩
end Go.Proofs.Ytmljljpldljpjaa

/-
  depths.of.
-/
namespace Go.Proofs.Ytmljljpldljpjaa
open Go.RowKit
set_option linter.unusedVariables false
set_option linter.unusedSimpArgs false
set_option maxRecDepth 100000
/-- what depths.of leaves -/
def OfE (w : World) (C : List Rs) (B n Mf : Nat) (f : Ky → Option Nat) (S : List Ky) (k : Ky) (e : Ending) (w' : World) : Prop :=
  ∃ (d N : Nat) (g : Ky → Option Nat), e = .returned (.int .i64 d) ∧ Mp w' Mf N g ∧ N + 2 * cntF C g ≤ B ∧ Fnd C n g S ∧ Ext f g ∧ g k = some d ∧ (d = 0 → Endl C k) ∧ (d ≠ 0 → Dep C k d) ∧ But Mf w w'
theorem tgF_at {C : List Rs} {k : Ky} {i : Nat} {r : Rs} (h : firstsF C k = some i) (hr : C[i]? = some r) : tgF C k = r.tgs := by unfold tgF; rw [h]; dsimp only; rw [hr]
theorem al2 (w : World) (x y : Obj) : ((w.alloc x).alloc y).heap[w.heap.size]? = some x ∧ ((w.alloc x).alloc y).heap[w.heap.size + 1]? = some y := by
  refine ⟨(Gr.alloc _ _).below.cells (heap_alloc_new w _), ?_⟩
  have := heap_alloc_new (w.alloc x) y
  rwa [show (w.alloc x).heap.size = w.heap.size + 1 from Array.size_push _] at this
set_option maxHeartbeats 32000000 in
theorem of_any {a : Option Addr} {os : List Rx} {M0 Np Mf n c : Nat} (hn : os.length = n) (hs : n ≤ 64) (hnl : ∀ r ∈ os.map Rx.toRs, r.kd = 2 → ∀ t ∈ r.tgs, firstsF (os.map Rx.toRs) (namF t) ≠ none) :
    ∀ (m : Nat) (w : World) (f : Ky → Option Nat) (S : List Ky) (N B : Nat) (kd : Int) (nm : ByteArray), B ≤ 1000 → cntF (os.map Rx.toRs) f < m → Env w a os M0 Np Mf N f → N + 2 * cntF (os.map Rx.toRs) f ≤ B → Fnd (os.map Rx.toRs) n f S → (∀ s ∈ S, Path (os.map Rx.toRs) s (kd, nm)) → kd = 2 → firstsF (os.map Rx.toRs) (kd, nm) ≠ none → okK (kd, nm) →
    Calls Try.prog 70 #[.agg #[.slice a n c, .map (some M0), .map (some Mf)], .agg #[.int .i64 kd, .string nm]] w fun e w' => OfE w (os.map Rx.toRs) B n Mf f S (kd, nm) e w' := by
  intro m
  induction m with
  | zero =>
    intro w f S N B kd nm hB hm
    exact absurd hm (Nat.not_lt_zero _)
  | succ m ih =>
    intro w f S N B kd nm hB hm hE hN hF hP hk2 hfi hok
    have HE := hideL hE
    have HFN := hideL hF
    have HP := hideL hP
    have HOK := hideL hok
    have HIH := hideL ih
    have HNL := hideL hnl
    have HK2 := hideL hk2
    clear hk2
    obtain ⟨i, hi⟩ : ∃ i, firstsF (os.map Rx.toRs) (kd, nm) = some i := by
      cases h : firstsF (os.map Rx.toRs) (kd, nm) with
      | none => exact absurd h hfi
      | some i => exact ⟨i, rfl⟩
    obtain ⟨r0, hr0, hk0⟩ := firstsF_get hi
    have HI := hideL hi
    obtain ⟨o, ho, rfl⟩ : ∃ o, os[i]? = some o ∧ o.toRs = r0 := by
      simp only [List.getElem?_map, Option.map_eq_some_iff] at hr0
      exact hr0
    have HOI := hideL ho
    have HCI := hideL hr0
    have HKO : Hid (o.toRs.key = (kd, nm)) := hk0
    have hil : i < n := by have := (List.getElem?_eq_some_iff.1 ho).1; omega
    have hil' : (i : Int) < n := by omega
    have hi0 : (0 : Int) ≤ i := by omega
    have HNN : Hid (N + 2 * cntF (os.map Rx.toRs) f ≤ B) := hN
    have HM : Hid (cntF (os.map Rx.toRs) f < m + 1) := hm
    clear hE hF hP hok ih hnl hi hr0 hk0 ho hfi hN hm
    obtain ⟨w2, hw2⟩ : ∃ X, ((w.alloc (.cells #[.slice a n c, .map (some M0), .map (some Mf)] 107 (0, 0))).alloc (.cells #[.int .i64 kd, .string nm] 74 (0, 0))) = X := ⟨_, rfl⟩
    have HG2 : Hid (Gr w w2) := by rw [← hw2]; exact (Gr.alloc _ _).trans (Gr.alloc _ _)
    have h2n := al2 w (.cells #[.slice a n c, .map (some M0), .map (some Mf)] 107 (0, 0)) (.cells #[.int .i64 kd, .string nm] 74 (0, 0))
    rw [hw2] at h2n
    have HX := hideL h2n
    have HE2 : Hid (Env w2 a os M0 Np Mf N f) := HE.out.but (But.of_below HG2.out.below) (HE.out.fd.below HG2.out.below)
    obtain ⟨p0, p1, p2⟩ : w2.cell? ⟨w.heap.size, 0, none⟩ = some (.slice a n c) ∧ w2.cell? ⟨w.heap.size, 1, none⟩ = some (.map (some M0)) ∧ w2.cell? ⟨w.heap.size, 2, none⟩ = some (.map (some Mf)) := by
      refine ⟨?_, ?_, ?_⟩ <;> (rw [cell_block h2n.1]; rfl)
    obtain ⟨q0, q1⟩ : w2.cell? ⟨w.heap.size + 1, 0, none⟩ = some (.int .i64 kd) ∧ w2.cell? ⟨w.heap.size + 1, 1, none⟩ = some (.string nm) := by
      refine ⟨?_, ?_⟩ <;> (rw [cell_block h2n.2]; rfl)
    clear h2n
    go_enter Try.func70, Try.ntmps70
    rcases hfk : f (kd, nm) with _ | v
    · have hlk : (Instr.lookup 61 (.map (some Mf)) (.agg #[.int .i64 kd, .string nm]) true).run Try.prog w2 = .ok (.tuple #[.int .i64 0, .bool false]) w2 := (HE2.out.fd.look HOK.out true).2 hfk
      obtain ⟨w3, hup, hm3, hg3⟩ := HE2.out.fd.put HOK.out 0 (by omega) (by have := HNN.out; unfold maxLen; omega)
      have HB3 := hideL (but_grown hg3)
      have hup2 : (Instr.mapUpdate 61 (.map (some Mf)) (.agg #[.int .i64 kd, .string nm]) (.int .i64 0)).run Try.prog w2 = .ok () w3 := hup
      have HE3 := hideL (HE2.out.but HB3.out hm3)
      have HFK := hideL hfk
      have HF3 : Hid (Fnd (os.map Rx.toRs) n (setF f (kd, nm) 0) ((kd, nm) :: S)) := by
        have := HFN.out.push (r := o.toRs) (List.mem_of_getElem? HCI.out) (by have := congrArg Prod.fst HKO.out; exact this.trans HK2.out) (by rw [HKO.out]; exact hfk)
        rw [HKO.out] at this
        exact this
      have HC3 : Hid (cntF (os.map Rx.toRs) (setF f (kd, nm) 0) + 1 ≤ cntF (os.map Rx.toRs) f) := by
        have := cnt_set (v := 0) (List.mem_of_getElem? HCI.out) (show o.toRs.kd = 2 from (congrArg Prod.fst HKO.out).trans HK2.out) (f := f) (by rw [HKO.out]; exact hfk)
        rw [HKO.out] at this
        exact this
      have hpl : ∀ q, (Instr.lookup 61 (.map (some M0)) (.agg #[.int .i64 kd, .string nm]) false).run Try.prog (w3.drewN q) = .ok (.int .i64 i) (w3.drewN q) := fun q => ((HE3.out.pl.below (Gr.drewN w3 q).below).look HOK.out false).1 i HI.out
      have hpl1 : (Instr.lookup 61 (.map (some M0)) (.agg #[.int .i64 kd, .string nm]) false).run Try.prog w3 = .ok (.int .i64 i) w3 := hpl 0
      have r0 := HB3.out.mcell HE2.out.fd p0
      have r1 := HB3.out.mcell HE2.out.fd p1
      have r2 := HB3.out.mcell HE2.out.fd p2
      have s0 := HB3.out.mcell HE2.out.fd q0
      have s1 := HB3.out.mcell HE2.out.fd q1
      obtain ⟨g, off, ea, d0, d1, d2, d3, d4, d5, d6, d7⟩ := HE3.out.lr.row.cells HOI.out
      subst ea
      clear hfk hm3 hg3 hup
      go_wp2_with fail
      go_quiet (fail)
      obtain ⟨w4, hw4⟩ : ∃ X, w3.drewN nq = X := ⟨_, rfl⟩
      have HG4 : Hid (Gr w3 w4) := by rw [← hw4]; exact Gr.drewN _ _
      rw [hw4]
      have HE4 : Hid (Env w4 (some ⟨g, off, none⟩) os M0 Np Mf (N + 1) (setF f (kd, nm) 0)) := HE3.out.but (But.of_below HG4.out.below) (HE3.out.fd.below HG4.out.below)
      have HB4 : Hid (But Mf w w4) := ((But.of_below HG2.out.below).trans HB3.out).trans (But.of_below HG4.out.below)
      replace r0 := hideL (HG4.out.cell r0)
      replace r1 := hideL (HG4.out.cell r1)
      replace r2 := hideL (HG4.out.cell r2)
      replace s0 := hideL (HG4.out.cell s0)
      replace s1 := hideL (HG4.out.cell s1)
      have HTG : Hid (tgF (os.map Rx.toRs) (kd, nm) = o.tgs) := tgF_at HI.out HCI.out
      have HRO := hideL (HE.out.lr.each o (List.mem_of_getElem? HOI.out))
      obtain ⟨L, hL⟩ : ∃ L, o.tgs.length = L := ⟨_, rfl⟩
      have hL0 : L ≤ 1048576 := by rw [← hL]; exact HRO.out.lt
      have HL := hideL hL
      rw [hL]
      obtain ⟨B0, hB0⟩ : ∃ X, w.heap.size = X := ⟨_, rfl⟩
      rw [hB0] at r0 r1 r2 s0 s1 ⊢
      clear hw4 hpl hpl1 hlk hup2 d0 d1 d2 d3 d4 d5 d6 d7 p0 p1 p2 q0 q1 HE HE2 HX HG2 hw2 HE3 HG4 HB3 hL
      go_wp2_with fail
      go_loopw [7, 34] (fun v t wr => ∃ (j dd N4 : Nat) (fj : Ky → Option Nat), v = .int .i64 dd ∧ t = .int .i64 j ∧ j ≤ L ∧ dd ≤ 64 ∧ Mp wr Mf N4 fj ∧ But Mf w4 wr ∧ Hid (N4 + 2 * cntF (os.map Rx.toRs) fj + 1 ≤ B) ∧ Hid (Fnd (os.map Rx.toRs) n fj ((kd, nm) :: S)) ∧ Hid (Ext (setF f (kd, nm) 0) fj) ∧ Hid (Lkd (os.map Rx.toRs) o.tgs fj j dd) ∧ Hid (dd + ((kd, nm) :: S).length + cntF (os.map Rx.toRs) fj ≤ n)) (fun _ t _ => L - (intOf t).toNat)
      case atStart => exact ⟨0, 0, N + 1, setF f (kd, nm) 0, rfl, rfl, by omega, by omega, HE4.out.fd, But.refl _ _, (by unfold Hid; have := HC3.out; have := HNN.out; omega), HF3.out, Ext.refl _, Lkd.zero _ _ _, (by unfold Hid; have := HF3.out.bd0; omega)⟩
      case round =>
        obtain ⟨j, dd, N4, fj, rfl, rfl, hj, hdd, hmp, hbut, HN4, HFJ, HEX, HLK, HBD⟩ := hrel
        have HMP := hideL hmp
        have HBU := hideL hbut
        clear hmp hbut
        have HER := hideL (HE4.out.but HBU.out HMP.out)
        have j0 : (0 : Int) ≤ j := by omega
        by_cases h3 : j < L
        · have h3' : (j : Int) < L := by omega
          rcases hkt : o.tgs[j]? with _ | t
          · have := List.getElem?_eq_none_iff.1 hkt; have := HL.out; omega
          have HKT := hideL hkt
          have HTO := hideL (HRO.out.st t (List.mem_of_getElem? hkt))
          obtain ⟨g2, off2, eta, c0, c1, c2⟩ := (HER.out.lr.each o (List.mem_of_getElem? HOI.out)).ts.tcells hkt
          obtain ⟨kx, hkx⟩ : ∃ kx, namF t = kx := ⟨_, rfl⟩
          have HKX := hideL hkx
          have HNA : Hid (∀ W, Calls Try.prog 87 #[.agg #[.string t.sv, .string t.sp, .float .f64 t.wt]] W fun e w' => e = .returned (.agg #[.int .i64 kx.1, .string kx.2]) ∧ Gr W w') := fun W => by
            have := named_any W t
            rw [hkx] at this
            exact this
          rw [eta]
          clear hkt eta hkx
          have st := st_float
          go_wp2_with fail
          refine (HNA.out _).mono ?_
          rintro e w6 ⟨rfl, hg6⟩
          have HG6 := hideL ((Gr.alloc wr _).trans hg6)
          clear hg6 c0 c1 c2 st
          obtain ⟨w7, hw7⟩ : ∃ X, w6.alloc (.cells #[.int .i64 kx.1, .string kx.2] 74 (0, 0)) = X := ⟨_, rfl⟩
          have HG7 : Hid (Gr wr w7) := by rw [← hw7]; exact HG6.out.trans (Gr.alloc _ _)
          have z0 : w7.cell? ⟨w6.heap.size, 0, none⟩ = some (.int .i64 kx.1) := by rw [← hw7, cell_block (heap_alloc_new w6 _)]; rfl
          have z1 : w7.cell? ⟨w6.heap.size, 1, none⟩ = some (.string kx.2) := by rw [← hw7, cell_block (heap_alloc_new w6 _)]; rfl
          have x0 := HG7.out.cell (HBU.out.mcell HE4.out.fd r0.out)
          have x1 := HG7.out.cell (HBU.out.mcell HE4.out.fd r1.out)
          have x2 := HG7.out.cell (HBU.out.mcell HE4.out.fd r2.out)
          have HB7 : Hid (But Mf w4 w7) := HBU.out.trans (But.of_below HG7.out.below)
          have HE7 : Hid (Env w7 (some ⟨g, off, none⟩) os M0 Np Mf N4 fj) := HER.out.but (But.of_below HG7.out.below) (HER.out.fd.below HG7.out.below)
          by_cases h2 : kx.1 = 2
          · have h2' : (kx.1 != 2) = false := by simp [h2]
            have HED : Hid (Edge (os.map Rx.toRs) (kd, nm) kx) := ⟨t, by rw [HTG.out]; exact List.mem_of_getElem? HKT.out, HKX.out, h2⟩
            have HCA : Hid (Calls Try.prog 70 #[.agg #[.slice (some ⟨g, off, none⟩) n c, .map (some M0), .map (some Mf)], .agg #[.int .i64 kx.1, .string kx.2]] w7 fun e w' => OfE w7 (os.map Rx.toRs) (B - 1) n Mf fj ((kd, nm) :: S) kx e w') := by
              refine HIH.out w7 fj ((kd, nm) :: S) N4 (B - 1) kx.1 kx.2 (by omega) ?_ HE7.out (by have := HN4.out; omega) HFJ.out (fun s hs => ?_) h2 ?_ ?_
              · have := cnt_ext (C := os.map Rx.toRs) HEX.out
                have := HC3.out
                have := HM.out
                omega
              · rcases List.mem_cons.1 hs with rfl | hs
                · exact .one HED.out
                · exact .more (HP.out s hs) HED.out
              · have := HNL.out o.toRs (List.mem_of_getElem? HCI.out) ((congrArg Prod.fst HKO.out).trans HK2.out) t (List.mem_of_getElem? HKT.out)
                rw [HKX.out] at this
                exact this
              · have := namF_ok HTO.out.1 HTO.out.2.1
                rw [HKX.out] at this
                exact this
            have HH2 := hideL h2
            clear h2
            go_wp2_with fail
            refine HCA.out.mono ?_
            rintro e w8 ⟨d, N8, g8, rfl, hm8, hn8, hf8, hx8, hk8, hz8, hp8, hb8⟩
            have HM8 := hideL hm8
            have HN8 := hideL hn8
            have HF8 := hideL hf8
            have HX8 := hideL hx8
            have HK8 := hideL hk8
            have HB8 : Hid (But Mf w4 w8) := HB7.out.trans hb8
            have HDB : Hid (d + ((kd, nm) :: S).length + cntF (os.map Rx.toRs) g8 ≤ n) := hf8.bd _ _ hk8
            have hd64 : d ≤ 64 := by have := HDB.out; omega
            by_cases hd : d = 0
            · have HEN := hideL (HED.out.endl (hz8 hd))
              have HR : Hid (OfE w (os.map Rx.toRs) B n Mf f S (kd, nm) (.returned (.int .i64 0)) w8) := by
                refine ⟨0, N8, g8, rfl, HM8.out, by have := HN8.out; omega, HF8.out.pop HEN.out, (ext_set HFK.out 0).trans (HEX.out.trans HX8.out), HF8.out.stk _ (by simp), fun _ => HEN.out, fun h => absurd rfl h, HB4.out.trans HB8.out⟩
              subst hd
              clear hm8 hn8 hf8 hx8 hk8 hz8 hp8 hb8 HCA
              go_wp2
              go_ret
              exact HR.out
            · have hd1 : ((d : Int) == 0) = false := by simp; omega
              have HLN : Hid (Lkd (os.map Rx.toRs) o.tgs g8 (j + 1) (max dd d)) := HLK.out.take HKT.out (by rw [HKX.out]; exact HH2.out) HX8.out (by rw [HKX.out]; exact HK8.out) hd
              have HBN : Hid (max dd d + ((kd, nm) :: S).length + cntF (os.map Rx.toRs) g8 ≤ n) := by
                unfold Hid
                have := HDB.out
                have := HBD.out
                have := cnt_ext (C := os.map Rx.toRs) HX8.out
                omega
              have hmx : max dd d ≤ 64 := by omega
              clear hm8 hn8 hf8 hx8 hk8 hz8 hp8 hb8 HCA hd
              go_wp2_with fail
              go_roundw
              case rel => exact ⟨j + 1, max dd d, N8, g8, congrArg (Value.int .i64) (by omega), by go_num, by omega, hmx, HM8.out, HB8.out, (by unfold Hid; have := HN8.out; have := HN4.out; omega), HF8.out, HEX.out.trans HX8.out, HLN.out, HBN.out⟩
              case measure => simp [intOf]; omega
          · have h2' : (kx.1 != 2) = true := by simpa using h2
            have HLN : Hid (Lkd (os.map Rx.toRs) o.tgs fj (j + 1) dd) := HLK.out.skip HKT.out (by rw [HKX.out]; exact h2)
            have HM7 := hideL (HMP.out.below HG7.out.below)
            clear h2
            go_wp2_with fail
            go_roundw
            case rel => exact ⟨j + 1, dd, N4, fj, rfl, by go_num, by omega, hdd, HM7.out, HB7.out, HN4.out, HFJ.out, HEX.out, HLN.out, HBD.out⟩
            case measure => simp [intOf]; omega
        · have h3' : ¬ (j : Int) < L := by omega
          have HDP : Hid (Dep (os.map Rx.toRs) (kd, nm) (dd + 1)) := by
            have h1 := HLK.out
            rw [← HTG.out] at h1
            exact h1.dep (by rw [HTG.out, HL.out]; omega) HFJ.out
          obtain ⟨w9, hup, hm9, hg9⟩ := HMP.out.put HOK.out (dd + 1) (by omega) (by have := HN4.out; unfold maxLen; omega)
          have hup2 : (Instr.mapUpdate 61 (.map (some Mf)) (.agg #[.int .i64 kd, .string nm]) (.int .i64 ((dd : Int) + 1))).run Try.prog wr = .ok () w9 := hup
          have x0 := HBU.out.mcell HE4.out.fd r0.out
          have x1 := HBU.out.mcell HE4.out.fd r1.out
          have x2 := HBU.out.mcell HE4.out.fd r2.out
          have y0 := HBU.out.mcell HE4.out.fd s0.out
          have y1 := HBU.out.mcell HE4.out.fd s1.out
          have HR : Hid (OfE w (os.map Rx.toRs) B n Mf f S (kd, nm) (.returned (.int .i64 ((dd : Int) + 1))) w9) := by
            refine ⟨dd + 1, N4 + 1, setF fj (kd, nm) (dd + 1), rfl, hm9, ?_, ?_, ?_, setF_same _ _ _, (fun h => by cases h), fun _ => HDP.out, HB4.out.trans (HBU.out.trans (but_grown hg9))⟩
            · rw [cnt_put (HFJ.out.stk _ (by simp))]; have := HN4.out; omega
            · refine HFJ.out.done (fun h => ?_) HDP.out HBD.out
              have := HFN.out.stk _ h
              rw [HFK.out] at this; cases this
            · intro x v hx
              by_cases hxk : x = (kd, nm)
              · subst hxk; rw [HFK.out] at hx; cases hx
              · rw [setF_ne fj _ hxk]; exact HEX.out x v (by rw [setF_ne f _ hxk]; exact hx)
          clear hup hm9 hg9
          go_wp2
          go_ret
          exact HR.out
    · have hlk : (Instr.lookup 61 (.map (some Mf)) (.agg #[.int .i64 kd, .string nm]) true).run Try.prog w2 = .ok (.tuple #[.int .i64 v, .bool true]) w2 := (HE2.out.fd.look HOK.out true).1 v hfk
      have HR : Hid (OfE w (os.map Rx.toRs) B n Mf f S (kd, nm) (.returned (.int .i64 v)) w2) := by
        refine ⟨v, N, f, rfl, HE2.out.fd, HNN.out, HFN.out, Ext.refl f, hfk, fun h0 => ?_, fun h0 => HFN.out.dep _ _ hfk h0, But.of_below HG2.out.below⟩
        subst h0
        rcases HFN.out.zero _ hfk with h1 | h1
        · exact (HP.out _ h1).ring
        · exact h1
      clear hfk
      go_wp2
      go_ret
      exact HR.out
end Go.Proofs.Ytmljljpldljpjaa

/-
  ringed.
-/
namespace Go.Proofs.Ytmljljpldljpjaa
open Go.RowKit
set_option linter.unusedVariables false
set_option linter.unusedSimpArgs false
set_option maxRecDepth 100000
/-- a split without a depth that may be -/
def rinF (C : List Rs) (r : Rs) : Option Nat := if r.kd = 2 ∧ dR C 8 r.key = 0 then some 0 else none
theorem ring_iff {C : List Rs} {k : Ky} {d : Nat} (h1 : d = 0 → Endl C k) (h2 : d ≠ 0 → Dep C k d) : (d = 0 ∨ 8 < d) ↔ dR C 8 k = 0 := by
  constructor
  · rintro (h | h)
    · exact h1 h 8
    · refine Classical.byContradiction fun hn => ?_
      have h3 : Dep C k (dR C 8 k) := ⟨hn, 8, rfl⟩
      have := h3.one (h2 (by omega))
      have := dR_le C 8 k
      omega
  · intro h
    by_cases h0 : d = 0
    · exact .inl h0
    · refine .inr (Classical.byContradiction fun hn => ?_)
      have hd := h2 h0
      have := dR_mono C (r := d) (s := 8) (by omega) (by rw [hd.at_]; exact h0)
      rw [h, hd.at_] at this
      exact h0 this.symm
theorem fnd_zero (C : List Rs) (n : Nat) (h : C.length = n) : Fnd C n (fun _ => none) [] := by
  have hc : cntF C (fun _ => none) ≤ n := by rw [← h]; exact List.countP_le_length
  exact ⟨fun k d e => (by cases e), fun k e => (by cases e), fun s hs => (by cases hs), fun x v e => (by cases e), by simpa using hc⟩
theorem makeMap_0 (w : World) : (Instr.makeMap 61 none).run Try.prog w = .ok (.map (some w.heap.size)) (w.alloc (.map #[] 0)) := by
  simp [Instr.makeMap, run_underlying Try.underlying61, Result.andThen, go_sem]
set_option maxHeartbeats 32000000 in
theorem ringed_any (w : World) (a : Option Addr) (n c : Nat) (os : List Rx) (hL : Lr w a os) (hn : os.length = n) (hs : n ≤ 64) (hnl : ∀ r ∈ os.map Rx.toRs, r.kd = 2 → ∀ t ∈ r.tgs, firstsF (os.map Rx.toRs) (namF t) ≠ none) :
    Calls Try.prog 51 #[.slice a n c] w fun e w' => FaE w (faV (lookF (fun _ r => rinF (os.map Rx.toRs) r) (os.map Rx.toRs)) 143) e w' := by
  have HL := hideL hL
  have HN := hideL hn
  have HNL := hideL hnl
  clear hL hn hnl
  obtain ⟨A, hA⟩ : ∃ A, lookF (fun _ r => rinF (os.map Rx.toRs) r) (os.map Rx.toRs) = A := ⟨_, rfl⟩
  have HST : Hid (∀ (i k : Nat) (r : Rs), (∀ (j : Nat) (x : Rs), j < i → (os.map Rx.toRs)[j]? = some x → rinF (os.map Rx.toRs) x = none) → (os.map Rx.toRs)[i]? = some r → rinF (os.map Rx.toRs) r = some k → A = some (i, k)) := fun i k r h1 h2 h3 => by rw [← hA]; exact lookF_stop h1 h2 h3
  have HAL : Hid ((∀ (j : Nat) (x : Rs), (os.map Rx.toRs)[j]? = some x → rinF (os.map Rx.toRs) x = none) → A = none) := fun h => by rw [← hA]; exact lookF_none h
  rw [hA]
  clear hA
  obtain ⟨w1, hw1⟩ : ∃ X, w.alloc f0 = X := ⟨_, rfl⟩
  have HB1 : Hid (Below w.heap.size w w1) := by rw [← hw1]; exact (Gr.alloc _ _).below
  have HX1 : Hid (w1.heap[w.heap.size]? = some f0) := by rw [← hw1]; exact heap_alloc_new w _
  have HS1 : Hid (w.heap.size < w1.heap.size) := by rw [← hw1]; unfold Hid; rw [show (w.alloc f0).heap.size = w.heap.size + 1 from Array.size_push _]; omega
  unfold f0 at hw1
  obtain ⟨B, hB⟩ : ∃ B, w.heap.size = B := ⟨_, rfl⟩
  rw [hB] at HX1
  go_enter Try.func51, Try.ntmps51
  go_wp2_with fail
  refine (firsts_any w1 a n c os (HL.out.below HB1.out) HN.out (by omega)).mono ?_
  rintro e w2 ⟨rfl, hm2, hb2⟩
  have HX2 := hideL (hb2.cells HX1.out)
  have HB2 := hideL (HB1.out.trans (hb2.mono HB1.out.size))
  obtain ⟨M0, hM0⟩ : ∃ M, w1.heap.size = M := ⟨_, rfl⟩
  rw [hM0] at hm2 ⊢
  have HM2 := hideL hm2
  have hmk := makeMap_0
  clear hm2 hb2 hw1 HX1
  obtain ⟨w3, hw3⟩ : ∃ X, ((w2.alloc (.map #[] 0)).alloc (.cells #[.slice a n c, .map (some M0), .map (some w2.heap.size)] 107 (0, 0))) = X := ⟨_, rfl⟩
  have HG3 : Hid (Gr w2 w3) := by rw [← hw3]; exact (Gr.alloc _ _).trans (Gr.alloc _ _)
  have HMF : Hid (Mp w3 w2.heap.size 0 (fun _ => none)) := by rw [← hw3]; exact (Mp.made w2).below (Gr.alloc _ _).below
  have HG107 : Hid (w3.heap[w2.heap.size + 1]? = some (.cells #[.slice a n c, .map (some M0), .map (some w2.heap.size)] 107 (0, 0))) := by rw [← hw3]; exact (al2 w2 _ _).2
  have HB3 := hideL (HB2.out.trans (HG3.out.below.mono HB2.out.size))
  have HX3 := hideL (HG3.out.below.cells HX2.out)
  go_wp2_with fail
  obtain ⟨Mf, hMf⟩ : ∃ X, w2.heap.size = X := ⟨_, rfl⟩
  have hMB : B < Mf := by have := HS1.out; have := HM2.out.lt; omega
  have hMM : M0 ≠ Mf := by have := HM2.out.lt; omega
  rw [hMf] at HMF HG107 ⊢
  obtain ⟨G, hG⟩ : ∃ X, Mf + 1 = X := ⟨_, rfl⟩
  rw [hG] at HG107 ⊢
  have HE3 : Hid (Env w3 a os M0 n Mf 0 (fun _ => none)) := ⟨HL.out.below HB3.out, HM2.out.below HG3.out.below, HMF.out, hMM⟩
  clear hw3 hmk HM2 HX2 HS1 hMf hG HB2 HG3 HMF
  go_loopw [14] (fun t wr => ∃ (i N : Nat) (fj : Ky → Option Nat), t = .int .i64 i ∧ i ≤ n ∧ Mp wr Mf N fj ∧ But Mf w3 wr ∧ Hid (N + 2 * cntF (os.map Rx.toRs) fj ≤ 1000) ∧ Hid (Fnd (os.map Rx.toRs) n fj []) ∧ Hid (∀ (j : Nat) (x : Rs), j < i → (os.map Rx.toRs)[j]? = some x → rinF (os.map Rx.toRs) x = none)) (fun t _ => n - (intOf t).toNat)
  case atStart =>
    refine ⟨0, 0, fun _ => none, rfl, by omega, HE3.out.fd, But.refl _ _, ?_, fnd_zero _ n (by rw [List.length_map]; exact HN.out), fun j y hj => by omega⟩
    have := (fnd_zero (os.map Rx.toRs) n (by rw [List.length_map]; exact HN.out)).bd0
    unfold Hid
    simp only [List.length_nil] at this
    omega
  case round =>
    obtain ⟨i, N, fj, rfl, hi, hmp, hbut, HNN, HFJ, HF⟩ := hrel
    have HMP := hideL hmp
    have HBU := hideL hbut
    clear hmp hbut
    have HER := hideL (HE3.out.but HBU.out HMP.out)
    have HBW : Hid (Below w.heap.size w wr) := HB3.out.trans (HBU.out.below HB3.out.size (by omega))
    have HXR := hideL (HBU.out.cells HX3.out (by omega))
    have i0 : (0 : Int) ≤ i := by omega
    by_cases h3 : i < n
    · have h3' : (i : Int) < n := by omega
      rcases hki : os[i]? with _ | o
      · have := List.getElem?_eq_none_iff.1 hki; have := HN.out; omega
      have HKI : Hid ((os.map Rx.toRs)[i]? = some o.toRs) := by unfold Hid; simp [hki]
      have HRO := hideL (HER.out.lr.each o (List.mem_of_getElem? hki))
      obtain ⟨g, off, rfl, d0, d1, d2, d3, d4, d5, d6, d7⟩ := HER.out.lr.row.cells hki
      clear hki
      obtain ⟨w4, hw4⟩ : ∃ X, wr.alloc (boxO o) = X := ⟨_, rfl⟩
      have HG4 : Hid (Gr wr w4) := by rw [← hw4]; exact Gr.alloc _ _
      have HX4 : Hid (w4.heap[wr.heap.size]? = some (boxO o)) := by rw [← hw4]; exact heap_alloc_new wr _
      have HE4 : Hid (Env w4 (some ⟨g, off, none⟩) os M0 n Mf N fj) := HER.out.but (But.of_below HG4.out.below) (HER.out.fd.below HG4.out.below)
      unfold boxO at hw4
      obtain ⟨e0, e1, e2, e3, e4, e5, e6, e7⟩ := box8 HX4.out
      obtain ⟨x0, x1, x2⟩ : w3.cell? ⟨G, 0, none⟩ = some (.slice (some ⟨g, off, none⟩) n c) ∧ w3.cell? ⟨G, 1, none⟩ = some (.map (some M0)) ∧ w3.cell? ⟨G, 2, none⟩ = some (.map (some Mf)) := by
        refine ⟨?_, ?_, ?_⟩ <;> (rw [cell_block HG107.out]; rfl)
      replace x0 := HG4.out.cell (HBU.out.mcell HE3.out.fd x0)
      replace x1 := HG4.out.cell (HBU.out.mcell HE3.out.fd x1)
      replace x2 := HG4.out.cell (HBU.out.mcell HE3.out.fd x2)
      have HGOOD : Hid (rinF (os.map Rx.toRs) o.toRs = none → ∀ (j : Nat) (x : Rs), j < i + 1 → (os.map Rx.toRs)[j]? = some x → rinF (os.map Rx.toRs) x = none) := fun h j x hj hx => by
        by_cases hji : j < i
        · exact HF.out j x hji hx
        · obtain rfl : j = i := by omega
          rw [HKI.out] at hx; cases hx; exact h
      by_cases hk2 : o.kd = 2
      · have hk2' : (o.kd != 2) = false := by simp [hk2]
        have HK2 := hideL hk2
        have HRI : Hid (dR (os.map Rx.toRs) 8 o.toRs.key = 0 → rinF (os.map Rx.toRs) o.toRs = some 0) := fun h => by unfold rinF; rw [if_pos ⟨HK2.out, h⟩]
        have HRN : Hid (¬ dR (os.map Rx.toRs) 8 o.toRs.key = 0 → rinF (os.map Rx.toRs) o.toRs = none) := fun h => by unfold rinF; rw [if_neg (fun h' => h h'.2)]
        have HKO : Hid (∀ W, Calls Try.prog 37 #[.agg #[.int .i64 o.kd, .string o.nm, .slice o.ea o.eps.length o.ec, .slice o.ta o.tgs.length o.tc, .string o.host, .slice o.ra o.rus.length o.rc, .string o.route, .bool o.del]] W fun e w' => e = .returned (.agg #[.int .i64 o.kd, .string o.nm]) ∧ Gr W w') := fun W => keyOf_any W o
        have HOF : Hid (∀ W, Gr w4 W → Calls Try.prog 70 #[.agg #[.slice (some ⟨g, off, none⟩) n c, .map (some M0), .map (some Mf)], .agg #[.int .i64 o.kd, .string o.nm]] W fun e w' => OfE W (os.map Rx.toRs) 1000 n Mf fj [] (o.kd, o.nm) e w') := fun W hW => by
          refine of_any HN.out hs HNL.out (cntF (os.map Rx.toRs) fj + 1) W fj [] N 1000 o.kd o.nm (by omega) (by omega) (HE4.out.but (But.of_below hW.below) (HE4.out.fd.below hW.below)) HNN.out HFJ.out (fun s hs => by cases hs) HK2.out ?_ HRO.out.ok.key
          intro h
          exact firstsF_none_iff.1 h o.toRs (List.mem_of_getElem? HKI.out) rfl
        obtain ⟨B4, hB4⟩ : ∃ X, wr.heap.size = X := ⟨_, rfl⟩
        rw [hB4] at e0 e1 e2 e3 e4 e5 e6 e7
        have HS := hideL (fun (w' : World) (h : But Mf w4 w') => show (w'.cell? ⟨G, 0, none⟩ = some (.slice (some ⟨g, off, none⟩) n c) ∧ w'.cell? ⟨G, 1, none⟩ = some (.map (some M0)) ∧ w'.cell? ⟨G, 2, none⟩ = some (.map (some Mf)) ∧ w'.cell? ⟨B4, 0, none⟩ = some (.int .i64 o.kd) ∧ w'.cell? ⟨B4, 1, none⟩ = some (.string o.nm) ∧ w'.cell? ⟨B4, 2, none⟩ = some (.slice o.ea o.eps.length o.ec) ∧ w'.cell? ⟨B4, 3, none⟩ = some (.slice o.ta o.tgs.length o.tc) ∧ w'.cell? ⟨B4, 4, none⟩ = some (.string o.host) ∧ w'.cell? ⟨B4, 5, none⟩ = some (.slice o.ra o.rus.length o.rc) ∧ w'.cell? ⟨B4, 6, none⟩ = some (.string o.route) ∧ w'.cell? ⟨B4, 7, none⟩ = some (.bool o.del)) from ⟨h.mcell HE4.out.fd x0, h.mcell HE4.out.fd x1, h.mcell HE4.out.fd x2, h.mcell HE4.out.fd e0, h.mcell HE4.out.fd e1, h.mcell HE4.out.fd e2, h.mcell HE4.out.fd e3, h.mcell HE4.out.fd e4, h.mcell HE4.out.fd e5, h.mcell HE4.out.fd e6, h.mcell HE4.out.fd e7⟩)
        clear hk2
        go_wp2_with fail
        go_region_held3 (fun w' => w'.cell? ⟨G, 0, none⟩ = some (.slice (some ⟨g, off, none⟩) n c) ∧ w'.cell? ⟨G, 1, none⟩ = some (.map (some M0)) ∧ w'.cell? ⟨G, 2, none⟩ = some (.map (some Mf)) ∧ w'.cell? ⟨B4, 0, none⟩ = some (.int .i64 o.kd) ∧ w'.cell? ⟨B4, 1, none⟩ = some (.string o.nm) ∧ w'.cell? ⟨B4, 2, none⟩ = some (.slice o.ea o.eps.length o.ec) ∧ w'.cell? ⟨B4, 3, none⟩ = some (.slice o.ta o.tgs.length o.tc) ∧ w'.cell? ⟨B4, 4, none⟩ = some (.string o.host) ∧ w'.cell? ⟨B4, 5, none⟩ = some (.slice o.ra o.rus.length o.rc) ∧ w'.cell? ⟨B4, 6, none⟩ = some (.string o.route) ∧ w'.cell? ⟨B4, 7, none⟩ = some (.bool o.del)) (go_keep) (first
          | (go_at_call 70; refine (HOF.out _ HG5.out).mono ?_; rintro e w6 ⟨d, N6, g6, rfl, hm6, hn6, hf6, hx6, hk6, hz6, hp6, hb6⟩; have HM6 := hideL hm6; have HN6 := hideL hn6; have HF6 := hideL hf6; have HRG := hideL (ring_iff hz6 hp6); have hd6 : d ≤ 64 := (by have := hf6.bd _ _ hk6; omega); have HB6 : Hid (But Mf w4 w6) := (But.of_below HG5.out.below).trans hb6; obtain ⟨y0, y1, y2, y3, y4, y5, y6, y7, y8, y9, y10⟩ := HS.out w6 HB6.out; clear hm6 hn6 hf6 hx6 hk6 hz6 hp6 hb6)
          | (go_at_call 37; refine (HKO.out _).mono ?_; rintro e w5 ⟨rfl, hg5⟩; have HG5 : Hid (Gr w4 w5) := (Gr.drewN w4 1).trans hg5; obtain ⟨y0, y1, y2, y3, y4, y5, y6, y7, y8, y9, y10⟩ := HS.out w5 (But.of_below HG5.out.below); clear hg5))
        by_cases hd0 : d = 0
        · have HR : Hid (A = some (i, 0)) := HST.out i 0 o.toRs HF.out HKI.out (HRI.out (HRG.out.1 (by omega)))
          have HX6 := hideL (HB6.out.cells (HG4.out.below.cells HXR.out) (by omega))
          have HBW6 : Hid (Below w.heap.size w w6) := HBW.out.trans ((((But.of_below HG4.out.below).trans HB6.out)).below HBW.out.size (by omega))
          obtain ⟨⟨f0, f1, f2⟩, ⟨g0, g1, g2⟩, ⟨k0, k1, k2⟩, hbut, -⟩ := set3 HX6.out (.int .i64 i) (.int .i64 0) (.int .i64 143)
          have HBT := hideL hbut
          clear hbut y0 y1 y2 y3 y4 y5 y6 y7 y8 y9 y10
          subst hd0
          go_wp2
          refine bodyPost_ret (v := .agg #[.int .i64 i, .int .i64 0, .int .i64 143]) (by simp [results, Try.results51, go_sem, k0, k1, k2]) rfl ⟨by rw [HR.out]; rfl, ?_⟩
          exact HBW6.out.trans (HBT.out.below HBW6.out.size (by omega))
        · have hd1 : ((d : Int) == 0) = false := by simp; omega
          by_cases hd8 : 8 < d
          · have hd8' : (8 : Int) < d := by omega
            have HR : Hid (A = some (i, 0)) := HST.out i 0 o.toRs HF.out HKI.out (HRI.out (HRG.out.1 (by omega)))
            have HX6 := hideL (HB6.out.cells (HG4.out.below.cells HXR.out) (by omega))
            have HBW6 : Hid (Below w.heap.size w w6) := HBW.out.trans ((((But.of_below HG4.out.below).trans HB6.out)).below HBW.out.size (by omega))
            obtain ⟨⟨f0, f1, f2⟩, ⟨g0, g1, g2⟩, ⟨k0, k1, k2⟩, hbut, -⟩ := set3 HX6.out (.int .i64 i) (.int .i64 0) (.int .i64 143)
            have HBT := hideL hbut
            clear hbut y0 y1 y2 y3 y4 y5 y6 y7 y8 y9 y10
            go_wp2
            refine bodyPost_ret (v := .agg #[.int .i64 i, .int .i64 0, .int .i64 143]) (by simp [results, Try.results51, go_sem, k0, k1, k2]) rfl ⟨by rw [HR.out]; rfl, ?_⟩
            exact HBW6.out.trans (HBT.out.below HBW6.out.size (by omega))
          · have hd8' : ¬ (8 : Int) < d := by omega
            have HR := hideL (HGOOD.out (HRN.out (fun h => by have := HRG.out.2 h; omega)))
            clear y0 y1 y2 y3 y4 y5 y6 y7 y8 y9 y10
            go_wp2_with fail
            go_roundw
            case rel => exact ⟨i + 1, N6, g6, by go_num, by omega, HM6.out, HBU.out.trans ((But.of_below HG4.out.below).trans HB6.out), HN6.out, HF6.out, HR.out⟩
            case measure => simp [intOf]; omega
      · have hk2' : (o.kd != 2) = true := by simpa using hk2
        have HR := hideL (HGOOD.out (by unfold rinF; rw [if_neg (fun h => hk2 h.1)]))
        clear hk2
        go_wp2_with fail
        go_roundw
        case rel => exact ⟨i + 1, N, fj, by go_num, by omega, HE4.out.fd, HBU.out.trans (But.of_below HG4.out.below), HNN.out, HFJ.out, HR.out⟩
        case measure => simp [intOf]; omega
    · have h3' : ¬ (i : Int) < n := by omega
      have HR : Hid (A = none) := HAL.out (fun j y hy => HF.out j y (by have := (List.getElem?_eq_some_iff.1 hy).1; have := HN.out; simp only [List.length_map] at *; omega) hy)
      obtain ⟨⟨f0, f1, f2⟩, ⟨g0, g1, g2⟩, ⟨k0, k1, k2⟩, hbut, -⟩ := set3 HXR.out (.int .i64 0) (.int .i64 0) (.int .i64 0)
      have HBT := hideL hbut
      clear hbut
      go_wp2
      refine bodyPost_ret (v := .agg #[.int .i64 0, .int .i64 0, .int .i64 0]) (by simp [results, Try.results51, go_sem, k0, k1, k2]) rfl ⟨by rw [HR.out]; rfl, ?_⟩
      exact HBW.out.trans (HBT.out.below HBW.out.size (by omega))
end Go.Proofs.Ytmljljpldljpjaa

/-
  Maps from texts to places; hostTwice.
-/
namespace Go.Proofs.Ytmljljpldljpjaa
open Go.RowKit
set_option linter.unusedVariables false
set_option linter.unusedSimpArgs false
set_option maxRecDepth 100000
theorem keyed9 : Go.Maps.Keyed Try.prog 9 := Go.Maps.string_keyed Try.underlying9
theorem okS_lit {s : ByteArray} (h : okS s) : ∃ l, keyOf Try.prog 9 (.string s) = some l := ⟨_, Go.WideMaps.keyOf_string_mk Try.underlying9 (by unfold okS at h; unfold maxLen; omega)⟩
/-- a map that says so of each key -/
structure Ms (W : World) (m N : Nat) (f : ByteArray → Option Nat) : Prop where
  ex : ∃ D : DataW Unit, W.ownsMap Try.prog 9 (plainElem Try.prog 3) m N D ∧ Go.Maps.Tidy D ∧ ∀ k, okS k → ∀ l, keyOf Try.prog 9 (.string k) = some l → (∀ i, f k = some i → ∀ z, D.atKey l z = .lit (.int .i64 i)) ∧ (f k = none → ∀ z, D.atKey l z = z)
theorem Ms.lt {W : World} {m N : Nat} {f : ByteArray → Option Nat} (h : Ms W m N f) : m < W.heap.size := by obtain ⟨D, h1, _⟩ := h.ex; exact h1.lt
theorem Ms.keep {W W' : World} {m N : Nat} {f : ByteArray → Option Nat} (h : Ms W m N f) (hb : W'.heap[m]? = W.heap[m]?) : Ms W' m N f := by
  obtain ⟨D, ⟨es, clock, h2, rest⟩, h3⟩ := h.ex
  exact ⟨D, ⟨es, clock, hb.trans h2, rest⟩, h3⟩
theorem Ms.below {W W' : World} {m N : Nat} {f : ByteArray → Option Nat} (h : Ms W m N f) (hb : Below W.heap.size W W') : Ms W' m N f := h.keep (hb.block m h.lt)
theorem Ms.made (W : World) : Ms (W.alloc (.map #[] 0)) W.heap.size 0 (fun _ => none) :=
  ⟨.map [], World.ownsMap_made (H := Unit) W Try.prog 9 _, Go.Maps.tidy_empty, fun k _ l _ => ⟨(fun i h => by cases h), (fun _ z => rfl)⟩⟩
theorem Ms.mono {W : World} {m N N' : Nat} {f : ByteArray → Option Nat} (h : Ms W m N f) (hn : N ≤ N') : Ms W m N' f := by
  obtain ⟨D, h1, h3⟩ := h.ex
  exact ⟨D, h1.mono hn, h3⟩
theorem Ms.look {W : World} {m N : Nat} {f : ByteArray → Option Nat} (h : Ms W m N f) {k : ByteArray} (hk : okS k) (c : Bool) :
    (∀ i, f k = some i → (Instr.lookup 104 (.map (some m)) (.string k) c).run Try.prog W = .ok (if c then .tuple #[.int .i64 i, .bool true] else .int .i64 i) W) ∧
    (f k = none → (Instr.lookup 104 (.map (some m)) (.string k) c).run Try.prog W = .ok (if c then .tuple #[.int .i64 0, .bool false] else .int .i64 0) W) := by
  obtain ⟨D, ⟨es, clock, hb, F, _, hD⟩, _, hf⟩ := h.ex
  obtain ⟨l, hl⟩ := (okS_lit hk)
  obtain ⟨h1, h2⟩ := hf k hk l hl
  rcases Go.Maps.fit_look c keyed9 Try.underlying104 (zero3 W) hb F hl with ⟨hrun, _, hat⟩ | ⟨e0, y, _, _, hrun, hRv, hat, _⟩
  · refine ⟨fun i hi => ?_, fun _ => hrun⟩
    have := h1 i hi .nil
    rw [hD, hat .nil] at this
    cases this
  · obtain ⟨c', hv, hy, hwc⟩ := plainElem_int_inv Try.underlying3 hRv
    refine ⟨fun i hi => ?_, fun hn => ?_⟩
    · have := h1 i hi .nil
      rw [hD, hat .nil, hy] at this
      injection this with this
      injection this with _ this
      rw [hrun, hv, this]
    · have := h2 hn .nil
      rw [hD, hat .nil, hy] at this
      cases this
def setS (f : ByteArray → Option Nat) (k : ByteArray) (i : Nat) : ByteArray → Option Nat := fun k' => if k' = k then some i else f k'
theorem Ms.put {W : World} {m N : Nat} {f : ByteArray → Option Nat} (h : Ms W m N f) {k : ByteArray} (hk : okS k) (i : Nat) (hi : i ≤ 1000000000) (hN : N < maxLen) :
    ∃ w', (Instr.mapUpdate 104 (.map (some m)) (.string k) (.int .i64 i)).run Try.prog W = .ok () w' ∧ Ms w' m (N + 1) (setS f k i) ∧ W.grownBy w' (some m) := by
  obtain ⟨D, h1, h2, hf⟩ := h.ex
  obtain ⟨l, hl⟩ := (okS_lit hk)
  obtain ⟨w', e1, e2, e3⟩ := h1.update keyed9 Try.underlying104 hN hl (plainElem_int Try.underlying3 (wf64 (n := i) (by omega)))
  refine ⟨w', e1, ⟨_, e2, h2.put (keyed9.key hl) _, fun k' hk' l' hl' => ?_⟩, e3⟩
  unfold setS
  by_cases e : k' = k
  · subst e
    rw [hl] at hl'; cases hl'
    rw [if_pos rfl]
    exact ⟨fun i' hi' z => by cases hi'; exact Go.Maps.atKey_put_same h2.isMap (keyed9.key hl) _ z, fun h => by cases h⟩
  · rw [if_neg e]
    have hne : l' ≠ l := fun e' => by subst e'; exact e (by have := keyed9.inj hl' hl; injection this)
    obtain ⟨a1, a2⟩ := hf k' hk' l' hl'
    exact ⟨fun i' hi' z => by rw [Go.Maps.atKey_put_other hne]; exact a1 i' hi' z, fun hn z => by rw [Go.Maps.atKey_put_other hne]; exact a2 hn z⟩
theorem makeMapS_0 (w : World) : (Instr.makeMap 104 none).run Try.prog w = .ok (.map (some w.heap.size)) (w.alloc (.map #[] 0)) := by
  simp [Instr.makeMap, run_underlying Try.underlying104, Result.andThen, go_sem]
theorem But.scell {w w' : World} {m N : Nat} {f : ByteArray → Option Nat} (h : But m w w') (hm : Ms w m N f) {p : Addr} {v : Value} (hc : w.cell? p = some v) : w'.cell? p = some v := by
  have hne : p.block ≠ m := by
    intro e
    obtain ⟨D, ⟨es, clock, h2, _⟩, _⟩ := hm.ex
    rw [World.cell?, e, h2] at hc
    simp at hc
  have := h.block p.block (World.block_lt_of_cell? w _ hc) hne
  rw [World.cell?_of_block this]; exact hc
/-- a route whose host another one ahead has -/
def hstF (C : List Rs) (i : Nat) (r : Rs) : Option Nat := if r.kd = 3 ∧ ∃ q ∈ C.take i, q.kd = 3 ∧ q.host = r.host then some 0 else none
theorem hst_some {C : List Rs} {i : Nat} {r q : Rs} (h3 : r.kd = 3) (hq : q ∈ C.take i) (hq3 : q.kd = 3) (hh : q.host = r.host) : hstF C i r = some 0 := by unfold hstF; rw [if_pos ⟨h3, q, hq, hq3, hh⟩]
theorem hst_none {C : List Rs} {i : Nat} {r : Rs} (h : r.kd = 3 → ∀ q ∈ C.take i, q.kd = 3 → q.host ≠ r.host) : hstF C i r = none := by
  unfold hstF
  rw [if_neg]
  rintro ⟨h3, q, hq, hq3, hh⟩
  exact h h3 q hq hq3 hh
def HsI (C : List Rs) (i : Nat) (f : ByteArray → Option Nat) : Prop := ∀ h, (∃ v, f h = some v) ↔ ∃ q ∈ C.take i, q.kd = 3 ∧ q.host = h
theorem HsI.skip {C : List Rs} {i : Nat} {f : ByteArray → Option Nat} {r : Rs} (h : HsI C i f) (hr : C[i]? = some r) (h3 : r.kd ≠ 3) : HsI C (i + 1) f := fun x => by
  rw [h x, take_snoc hr]
  constructor
  · rintro ⟨q, hq, h1⟩; exact ⟨q, List.mem_append.2 (.inl hq), h1⟩
  · rintro ⟨q, hq, h1, h2⟩
    rcases List.mem_append.1 hq with hq | hq
    · exact ⟨q, hq, h1, h2⟩
    · obtain rfl := List.mem_singleton.1 hq; exact absurd h1 h3
theorem HsI.put {C : List Rs} {i : Nat} {f : ByteArray → Option Nat} {r : Rs} (h : HsI C i f) (hr : C[i]? = some r) (h3 : r.kd = 3) (v : Nat) : HsI C (i + 1) (setS f r.host v) := fun x => by
  rw [take_snoc hr]
  unfold setS
  by_cases e : x = r.host
  · rw [if_pos e]
    exact ⟨fun _ => ⟨r, by simp, h3, e.symm⟩, fun _ => ⟨v, rfl⟩⟩
  · rw [if_neg e, h x]
    constructor
    · rintro ⟨q, hq, h1⟩; exact ⟨q, List.mem_append.2 (.inl hq), h1⟩
    · rintro ⟨q, hq, h1, h2⟩
      rcases List.mem_append.1 hq with hq | hq
      · exact ⟨q, hq, h1, h2⟩
      · obtain rfl := List.mem_singleton.1 hq; exact absurd h2.symm e
set_option maxHeartbeats 32000000 in
theorem hostTwice_any (w : World) (a : Option Addr) (n c : Nat) (os : List Rx) (hL : Lr w a os) (hn : os.length = n) (hs : n ≤ 4194304) :
    Calls Try.prog 49 #[.slice a n c] w fun e w' => FaE w (faV (lookF (hstF (os.map Rx.toRs)) (os.map Rx.toRs)) 141) e w' := by
  have HL := hideL hL
  have HN := hideL hn
  clear hL hn
  obtain ⟨A, hA⟩ : ∃ A, lookF (hstF (os.map Rx.toRs)) (os.map Rx.toRs) = A := ⟨_, rfl⟩
  have HST : Hid (∀ (i k : Nat) (r : Rs), (∀ (j : Nat) (x : Rs), j < i → (os.map Rx.toRs)[j]? = some x → hstF (os.map Rx.toRs) j x = none) → (os.map Rx.toRs)[i]? = some r → hstF (os.map Rx.toRs) i r = some k → A = some (i, k)) := fun i k r h1 h2 h3 => by rw [← hA]; exact lookF_stop h1 h2 h3
  have HAL : Hid ((∀ (j : Nat) (x : Rs), (os.map Rx.toRs)[j]? = some x → hstF (os.map Rx.toRs) j x = none) → A = none) := fun h => by rw [← hA]; exact lookF_none h
  rw [hA]
  clear hA
  obtain ⟨w1, hw1⟩ : ∃ X, w.alloc f0 = X := ⟨_, rfl⟩
  have HB1 : Hid (Below w.heap.size w w1) := by rw [← hw1]; exact (Gr.alloc _ _).below
  have HX1 : Hid (w1.heap[w.heap.size]? = some f0) := by rw [← hw1]; exact heap_alloc_new w _
  have HS1 : Hid (w.heap.size < w1.heap.size) := by rw [← hw1]; unfold Hid; rw [show (w.alloc f0).heap.size = w.heap.size + 1 from Array.size_push _]; omega
  unfold f0 at hw1
  obtain ⟨B, hB⟩ : ∃ B, w.heap.size = B := ⟨_, rfl⟩
  rw [hB] at HX1
  obtain ⟨Mf, hMf⟩ : ∃ X, w1.heap.size = X := ⟨_, rfl⟩
  obtain ⟨w3, hw3⟩ : ∃ X, w1.alloc (.map #[] 0) = X := ⟨_, rfl⟩
  have HG3 : Hid (Gr w1 w3) := by rw [← hw3]; exact Gr.alloc _ _
  have HM3 : Hid (Ms w3 Mf 0 (fun _ => none)) := by rw [← hw3, ← hMf]; exact Ms.made w1
  have HB3 := hideL (HB1.out.trans (HG3.out.below.mono HB1.out.size))
  have HX3 := hideL (HG3.out.below.cells HX1.out)
  have hMB : B < Mf := by have := HS1.out; omega
  have hmk : (Instr.makeMap 104 none).run Try.prog w1 = .ok (.map (some Mf)) w3 := by rw [← hMf, ← hw3]; exact makeMapS_0 w1
  clear hw3 HG3 HX1 HS1 hMf HB1
  go_enter Try.func49, Try.ntmps49
  go_wp2_with fail
  go_loopw [11] (fun t wr => ∃ (i N : Nat) (fj : ByteArray → Option Nat), t = .int .i64 i ∧ i ≤ n ∧ N ≤ i ∧ Ms wr Mf N fj ∧ But Mf w3 wr ∧ Hid (HsI (os.map Rx.toRs) i fj) ∧ Hid (∀ (j : Nat) (x : Rs), j < i → (os.map Rx.toRs)[j]? = some x → hstF (os.map Rx.toRs) j x = none)) (fun t _ => n - (intOf t).toNat)
  case atStart => exact ⟨0, 0, fun _ => none, rfl, by omega, by omega, HM3.out, But.refl _ _, (fun h => ⟨(fun ⟨v, e⟩ => by cases e), (fun ⟨q, hq, _⟩ => by simp at hq)⟩), fun j y hj => by omega⟩
  case round =>
    obtain ⟨i, N, fj, rfl, hi, hNi, hmp, hbut, HSI, HF⟩ := hrel
    have HMP := hideL hmp
    have HBU := hideL hbut
    clear hmp hbut
    have HBW : Hid (Below w.heap.size w wr) := HB3.out.trans (HBU.out.below HB3.out.size (by omega))
    have HXR := hideL (HBU.out.cells HX3.out (by omega))
    have i0 : (0 : Int) ≤ i := by omega
    by_cases h3 : i < n
    · have h3' : (i : Int) < n := by omega
      rcases hki : os[i]? with _ | o
      · have := List.getElem?_eq_none_iff.1 hki; have := HN.out; omega
      have HKI : Hid ((os.map Rx.toRs)[i]? = some o.toRs) := by unfold Hid; simp [hki]
      have HRO := hideL (HL.out.each o (List.mem_of_getElem? hki))
      obtain ⟨g, off, rfl, d0, d1, d2, d3, d4, d5, d6, d7⟩ := (HL.out.row.below HBW.out).cells hki
      clear hki
      obtain ⟨w4, hw4⟩ : ∃ X, wr.alloc (boxO o) = X := ⟨_, rfl⟩
      have HG4 : Hid (Gr wr w4) := by rw [← hw4]; exact Gr.alloc _ _
      have HX4 : Hid (w4.heap[wr.heap.size]? = some (boxO o)) := by rw [← hw4]; exact heap_alloc_new wr _
      have HM4 := hideL (HMP.out.below HG4.out.below)
      have HB4 : Hid (But Mf w3 w4) := HBU.out.trans (But.of_below HG4.out.below)
      unfold boxO at hw4
      obtain ⟨e0, e1, e2, e3, e4, e5, e6, e7⟩ := box8 HX4.out
      have HGOOD : Hid (hstF (os.map Rx.toRs) i o.toRs = none → ∀ (j : Nat) (x : Rs), j < i + 1 → (os.map Rx.toRs)[j]? = some x → hstF (os.map Rx.toRs) j x = none) := fun h j x hj hx => by
        by_cases hji : j < i
        · exact HF.out j x hji hx
        · obtain rfl : j = i := by omega
          rw [HKI.out] at hx; cases hx; exact h
      by_cases hk3 : o.kd = 3
      · have hk3' : (o.kd != 3) = false := by simp [hk3]
        have HK3 := hideL hk3
        clear hk3
        rcases hfh : fj o.host with _ | v
        · have hlk : (Instr.lookup 104 (.map (some Mf)) (.string o.host) true).run Try.prog w4 = .ok (.tuple #[.int .i64 0, .bool false]) w4 := (HM4.out.look HRO.out.n2 true).2 hfh
          obtain ⟨w5, hup, hm5, hg5⟩ := HM4.out.put HRO.out.n2 i (by omega) (by unfold maxLen; omega)
          have HM5 := hideL hm5
          have HB5 : Hid (But Mf w3 w5) := HB4.out.trans ⟨hg5.os, hg5.tape, hg5.output, hg5.size, fun j hj hne => hg5.block j hj (fun e => hne (by cases e; rfl))⟩
          have HR := hideL (HGOOD.out (hst_none fun _ q hq hq3 hh => by
            obtain ⟨v, hv⟩ := (HSI.out o.host).2 ⟨q, hq, hq3, hh⟩
            rw [hfh] at hv; cases hv))
          have HSN := hideL (HSI.out.put HKI.out HK3.out i)
          clear hfh hm5 hg5
          go_wp2_with fail
          go_roundw
          case rel => exact ⟨i + 1, N + 1, setS fj o.host i, by go_num, by omega, by omega, HM5.out, HB5.out, HSN.out, HR.out⟩
          case measure => simp [intOf]; omega
        · have hlk : (Instr.lookup 104 (.map (some Mf)) (.string o.host) true).run Try.prog w4 = .ok (.tuple #[.int .i64 v, .bool true]) w4 := (HM4.out.look HRO.out.n2 true).1 v hfh
          have HR : Hid (A = some (i, 0)) := by
            obtain ⟨q, hq, hq3, hh⟩ := (HSI.out o.host).1 ⟨v, hfh⟩
            exact HST.out i 0 o.toRs HF.out HKI.out (hst_some HK3.out hq hq3 hh)
          have HX6 := hideL (HG4.out.below.cells HXR.out)
          have HBW6 : Hid (Below w.heap.size w w4) := HBW.out.trans (HG4.out.below.mono HBW.out.size)
          obtain ⟨⟨f0, f1, f2⟩, ⟨g0, g1, g2⟩, ⟨k0, k1, k2⟩, hbut, -⟩ := set3 HX6.out (.int .i64 i) (.int .i64 0) (.int .i64 141)
          have HBT := hideL hbut
          clear hbut hfh
          go_wp2
          refine bodyPost_ret (v := .agg #[.int .i64 i, .int .i64 0, .int .i64 141]) (by simp [results, Try.results49, go_sem, k0, k1, k2]) rfl ⟨by rw [HR.out]; rfl, ?_⟩
          exact HBW6.out.trans (HBT.out.below HBW6.out.size (by omega))
      · have hk3' : (o.kd != 3) = true := by simpa using hk3
        have HR := hideL (HGOOD.out (hst_none fun h => absurd h hk3))
        have HSN := hideL (HSI.out.skip HKI.out hk3)
        clear hk3
        go_wp2_with fail
        go_roundw
        case rel => exact ⟨i + 1, N, fj, by go_num, by omega, by omega, HM4.out, HB4.out, HSN.out, HR.out⟩
        case measure => simp [intOf]; omega
    · have h3' : ¬ (i : Int) < n := by omega
      have HR : Hid (A = none) := HAL.out (fun j y hy => HF.out j y (by have := (List.getElem?_eq_some_iff.1 hy).1; have := HN.out; simp only [List.length_map] at *; omega) hy)
      obtain ⟨⟨f0, f1, f2⟩, ⟨g0, g1, g2⟩, ⟨k0, k1, k2⟩, hbut, -⟩ := set3 HXR.out (.int .i64 0) (.int .i64 0) (.int .i64 0)
      have HBT := hideL hbut
      clear hbut
      go_wp2
      refine bodyPost_ret (v := .agg #[.int .i64 0, .int .i64 0, .int .i64 0]) (by simp [results, Try.results49, go_sem, k0, k1, k2]) rfl ⟨by rw [HR.out]; rfl, ?_⟩
      exact HBW.out.trans (HBT.out.below HBW.out.size (by omega))
end Go.Proofs.Ytmljljpldljpjaa
