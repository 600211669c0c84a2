/-
  NetOrder: what holds of a connection and of what was written and read.
-/
import Derived.Test.YtcbnmoppnoiggaaOwn
namespace Go.Proofs.Ytcbnmoppnoiggaa
open Go.RowKit
set_option linter.unusedVariables false
set_option linter.unusedSimpArgs false
def upd {α : Type} (f : Bool → α) (s : Bool) (x : α) : Bool → α := fun t => if t = s then x else f t
theorem upd_same {α : Type} (f : Bool → α) (s : Bool) (x : α) : upd f s x s = x := by simp [upd]
theorem upd_other {α : Type} (f : Bool → α) (s : Bool) (x : α) {t : Bool} (h : t ≠ s) : upd f s x t = f t := by simp [upd, h]
theorem Md.sd_same (c : Md) (s : Bool) (d : Sm) : (c.set s d).sd s = d := by cases s <;> rfl
theorem Md.sd_not (c : Md) (s : Bool) (d : Sm) : (c.set s d).sd (!s) = c.sd (!s) := by cases s <;> rfl
theorem Md.not_sd (c : Md) (s : Bool) (d : Sm) : (c.set (!s) d).sd s = c.sd s := by cases s <;> rfl
theorem Md.set_ct (c : Md) (s : Bool) (d : Sm) : (c.set s d).ct = c.ct := by cases s <;> rfl
/-- What holds of the one connection that is looked at. -/
structure Con1 (m : Md) (W R : Bool → List Int) : Prop where
  all : m.ct = false → ∀ s, W s = R s ++ (m.sd (!s)).ar ++ (m.sd s).us
structure Inv (cs : List Cn) (D : Nat) (W R : Bool → List Int) : Prop where
  len : cs.length = 3
  siz : ∀ (i : Nat) c, cs[i]? = some c → ∀ s, (c.m.sd s).us.length + (c.m.sd (!s)).ar.length ≤ D
  wl : ∀ s, (W s).length ≤ D
  con : ∀ c, cs[1]? = some c → Con1 c.m W R
  pre : ∀ s, ∃ t, W s = R s ++ t
theorem Inv.mono {cs : List Cn} {D D' : Nat} {W R : Bool → List Int} (h : Inv cs D W R) (hD : D ≤ D') : Inv cs D' W R :=
  ⟨h.len, fun i c hc s => Nat.le_trans (h.siz i c hc s) hD, fun s => Nat.le_trans (h.wl s) hD, h.con, h.pre⟩
theorem Inv.set {cs : List Cn} {D D' : Nat} {W R W' R' : Bool → List Int} (h : Inv cs D W R) (hD : D ≤ D') {i : Nat} {c c' : Cn} (hc : cs[i]? = some c)
    (hs : ∀ s, (c'.m.sd s).us.length + (c'.m.sd (!s)).ar.length ≤ D') (hw : ∀ s, (W' s).length ≤ D')
    (h1 : i = 1 → Con1 c'.m W' R') (h0 : i ≠ 1 → ∀ c, Con1 c W R → Con1 c W' R') (hp : ∀ s, ∃ t, W' s = R' s ++ t) : Inv (cs.set i c') D' W' R' := by
  have hi : i < cs.length := (List.getElem?_eq_some_iff.1 hc).1
  refine ⟨by simpa using h.len, ?_, hw, ?_, hp⟩
  · intro j d hd s
    rw [List.getElem?_set] at hd
    by_cases e : i = j
    · subst e; simp [hi] at hd; subst hd; exact hs s
    · rw [if_neg e] at hd; exact Nat.le_trans (h.siz j d hd s) hD
  · intro d hd
    rw [List.getElem?_set] at hd
    by_cases e : i = 1
    · subst e; simp [hi] at hd; subst hd; exact h1 rfl
    · rw [if_neg e] at hd; exact h0 e _ (h.con d hd)
theorem set_us {c c' : Cn} (h : c'.m = c.m) : c'.m = c.m := h
/-- Nothing but the memory changed. -/
theorem Inv.still {cs : List Cn} {D : Nat} {W R : Bool → List Int} (h : Inv cs D W R) {i : Nat} {c c' : Cn} (hc : cs[i]? = some c) (hm : c'.m = c.m) : Inv (cs.set i c') D W R := by
  refine h.set (Nat.le_refl _) hc (fun s => by rw [hm]; exact h.siz i c hc s) h.wl (fun e => ?_) (fun _ _ h => h) h.pre
  subst e
  rw [hm]; exact h.con c hc
theorem write_cases (m : Md) (s : Bool) (ps : List Int) : ((mWrite m s ps).1 ≠ 0 ∧ (mWrite m s ps).2 = m) ∨ (m.ct = false ∧ mWrite m s ps = (0, m.set s { m.sd s with us := (m.sd s).us ++ ps })) := by
  unfold mWrite
  cases hct : m.ct with
  | true => left; simp
  | false =>
    by_cases h1 : (m.sd s).cl = true
    · left; simp [h1]
    · by_cases h2 : 1048576 < (m.sd s).us.length + ps.length
      · left; simp [h1, h2]
      · right; simp [h1, h2]
theorem Inv.write {cs : List Cn} {D : Nat} {W R : Bool → List Int} (h : Inv cs D W R) {i : Nat} {c c' : Cn} (hc : cs[i]? = some c) (s : Bool) (ps : List Int) (hm : c'.m = (mWrite c.m s ps).2) :
    Inv (cs.set i c') (D + ps.length) (if (mWrite c.m s ps).1 = 0 ∧ i = 1 then upd W s (W s ++ ps) else W) R := by
  rcases write_cases c.m s ps with ⟨h1, h2⟩ | ⟨hct, h2⟩
  · rw [if_neg (fun e => h1 e.1)]
    exact (h.still hc (hm.trans h2)).mono (Nat.le_add_right _ _)
  · rw [h2] at hm ⊢
    have hsz := h.siz i c hc
    have hs : ∀ t, (c'.m.sd t).us.length + (c'.m.sd (!t)).ar.length ≤ D + ps.length := fun t => by
      rw [hm]
      by_cases e : t = s
      · subst e; rw [Md.sd_same, Md.sd_not]; have := hsz t; simp; omega
      · have e' : s = !t := by cases s <;> cases t <;> simp_all
        subst e'
        rw [Md.not_sd, Md.sd_same]; have := hsz t; simp only; omega
    by_cases hi : i = 1
    · subst hi
      rw [if_pos ⟨rfl, rfl⟩]
      refine h.set (Nat.le_add_right _ _) hc hs (fun t => ?_) (fun _ => ⟨fun hct' t => ?_⟩) (fun e => absurd rfl e) (fun t => ?_)
      · by_cases e : t = s
        · subst e; rw [upd_same]; have := h.wl t; simp; omega
        · rw [upd_other _ _ _ e]; have := h.wl t; omega
      · have hW := (h.con c hc).all hct
        by_cases e : t = s
        · subst e; rw [upd_same, hm, Md.sd_same, Md.sd_not, hW t]; simp
        · have e' : s = !t := by cases s <;> cases t <;> simp_all
          subst e'
          rw [upd_other _ _ _ e, hm, Md.sd_same, Md.not_sd, hW t]
      · obtain ⟨r, hr⟩ := h.pre t
        by_cases e : t = s
        · subst e; rw [upd_same, hr]; exact ⟨r ++ ps, by simp⟩
        · rw [upd_other _ _ _ e]; exact ⟨r, hr⟩
    · rw [if_neg (fun e => hi e.2)]
      exact h.set (Nat.le_add_right _ _) hc hs (fun t => Nat.le_trans (h.wl t) (Nat.le_add_right _ _)) (fun e => absurd e hi) (fun _ _ h => h) h.pre
theorem Inv.pass {cs : List Cn} {D : Nat} {W R : Bool → List Int} (h : Inv cs D W R) {i : Nat} {c c' : Cn} (hc : cs[i]? = some c) (s : Bool) (most : Int) (hm : c'.m = (mPass c.m s most).2.2) : Inv (cs.set i c') D W R := by
  by_cases hn : most < 0
  · rw [pass_neg _ _ _ hn] at hm
    exact h.still hc hm
  · cases hct : c.m.ct with
    | true =>
      have : mPass c.m s most = (0, 40, c.m) := by unfold mPass; rw [if_neg hn, if_pos hct]
      rw [this] at hm
      exact h.still hc hm
    | false =>
      have e : mPass c.m s most = ((mK c.m s most : Int), 0, (c.m.set (!s) { c.m.sd (!s) with ar := (c.m.sd (!s)).ar ++ (c.m.sd s).us.take (mK c.m s most) }).set s ⟨(c.m.sd s).us.drop (mK c.m s most), (c.m.sd s).ar, (c.m.sd s).cl, if mK c.m s most = (c.m.sd s).us.length then (c.m.sd s).cl else (c.m.sd s).to⟩) := by
        unfold mPass; rw [if_neg hn, if_neg (by rw [hct]; decide)]
      rw [e] at hm
      obtain ⟨k, hk⟩ : ∃ k, mK c.m s most = k := ⟨_, rfl⟩
      rw [hk] at hm
      have hsz := h.siz i c hc
      have p1 : c'.m.sd s = ⟨(c.m.sd s).us.drop k, (c.m.sd s).ar, (c.m.sd s).cl, if k = (c.m.sd s).us.length then (c.m.sd s).cl else (c.m.sd s).to⟩ := by rw [hm, Md.sd_same]
      have p2 : c'.m.sd (!s) = { c.m.sd (!s) with ar := (c.m.sd (!s)).ar ++ (c.m.sd s).us.take k } := by rw [hm, Md.sd_not, Md.sd_same]
      have two : ∀ (P : Bool → Prop), P s → P (!s) → ∀ t, P t := fun P h1 h2 t => by cases s <;> cases t <;> simp_all
      refine h.set (Nat.le_refl _) hc (two _ ?_ ?_) h.wl (fun e1 => ⟨fun hct' => two _ ?_ ?_⟩) (fun _ _ h => h) h.pre
      · rw [p1, p2]; have := hsz s; simp; omega
      · rw [Bool.not_not, p1, p2]; have := hsz (!s); rw [Bool.not_not] at this; simpa using this
      · subst e1
        have hW := (h.con c hc).all hct s
        rw [p1, p2, hW]
        simp
      · subst e1
        have hW := (h.con c hc).all hct (!s)
        rw [Bool.not_not] at hW ⊢
        rw [p1, p2, hW]
theorem Inv.read {cs : List Cn} {D : Nat} {W R : Bool → List Int} (h : Inv cs D W R) {i : Nat} {c c' : Cn} (hc : cs[i]? = some c) (s : Bool) (hm : c'.m = (mRead c.m s).2.2.2) :
    Inv (cs.set i c') D W (if (mRead c.m s).2.2.1 = 0 ∧ i = 1 then upd R (!s) (R (!s) ++ (mRead c.m s).1) else R) := by
  cases hct : c.m.ct with
  | true =>
    have e : mRead c.m s = ([], false, 40, c.m) := by unfold mRead; rw [if_pos hct]
    rw [e] at hm ⊢
    rw [if_neg (fun e => absurd (show (40 : Int) = 0 from e.1) (by decide))]
    exact h.still hc hm
  | false =>
    have e : mRead c.m s = ((c.m.sd s).ar, (c.m.sd (!s)).to, 0, c.m.set s { c.m.sd s with ar := [] }) := by unfold mRead; rw [if_neg (by rw [hct]; decide)]
    rw [e] at hm ⊢
    have hsz := h.siz i c hc
    have p1 : c'.m.sd s = { c.m.sd s with ar := [] } := by rw [hm, Md.sd_same]
    have p2 : c'.m.sd (!s) = c.m.sd (!s) := by rw [hm, Md.sd_not]
    have two : ∀ (P : Bool → Prop), P s → P (!s) → ∀ t, P t := fun P h1 h2 t => by cases s <;> cases t <;> simp_all
    have hs : ∀ t, (c'.m.sd t).us.length + (c'.m.sd (!t)).ar.length ≤ D := by
      refine two _ ?_ ?_
      · rw [p1, p2]; exact hsz s
      · rw [Bool.not_not, p1, p2]; have := hsz (!s); simp; omega
    by_cases hi : i = 1
    · subst hi
      rw [if_pos ⟨rfl, rfl⟩]
      have hW := (h.con c hc).all hct
      have ns : s ≠ !s := by cases s <;> decide
      refine h.set (Nat.le_refl _) hc hs h.wl (fun _ => ⟨fun hct' => two _ ?_ ?_⟩) (fun e => absurd rfl e) (two _ ?_ ?_)
      · rw [upd_other _ _ _ ns, p1, p2]; exact hW s
      · rw [Bool.not_not, upd_same, p1, p2]; have := hW (!s); rw [Bool.not_not] at this; rw [this]; simp
      · rw [upd_other _ _ _ ns]; exact h.pre s
      · rw [upd_same]; have := hW (!s); rw [Bool.not_not] at this; exact ⟨_, this⟩
    · rw [if_neg (fun e => hi e.2)]
      exact h.set (Nat.le_refl _) hc hs h.wl (fun e => absurd e hi) (fun _ _ h => h) h.pre
theorem Inv.close {cs : List Cn} {D : Nat} {W R : Bool → List Int} (h : Inv cs D W R) {i : Nat} {c c' : Cn} (hc : cs[i]? = some c) (s : Bool) (hm : c'.m = (mClose c.m s).2) : Inv (cs.set i c') D W R := by
  have : (mClose c.m s).2 = c.m ∨ (mClose c.m s).2 = c.m.set s { c.m.sd s with cl := true } := by
    unfold mClose
    split
    · exact .inl rfl
    · split
      · exact .inl rfl
      · exact .inr rfl
  rcases this with e | e
  · exact h.still hc (hm.trans e)
  · rw [e] at hm
    have p1 : c'.m.sd s = { c.m.sd s with cl := true } := by rw [hm, Md.sd_same]
    have p2 : c'.m.sd (!s) = c.m.sd (!s) := by rw [hm, Md.sd_not]
    have pc : c'.m.ct = c.m.ct := by rw [hm, Md.set_ct]
    have two : ∀ (P : Bool → Prop), P s → P (!s) → ∀ t, P t := fun P h1 h2 t => by cases s <;> cases t <;> simp_all
    have hsz := h.siz i c hc
    refine h.set (Nat.le_refl _) hc (two _ ?_ ?_) h.wl (fun e1 => ⟨fun hct' => two _ ?_ ?_⟩) (fun _ _ h => h) h.pre
    · rw [p1, p2]; exact hsz s
    · rw [Bool.not_not, p1, p2]; have := hsz (!s); rw [Bool.not_not] at this; exact this
    · subst e1; rw [p1, p2]; exact (h.con c hc).all (pc ▸ hct') s
    · subst e1; rw [Bool.not_not, p1, p2]; have := (h.con c hc).all (pc ▸ hct') (!s); rw [Bool.not_not] at this; exact this
theorem Inv.cut {cs : List Cn} {D : Nat} {W R : Bool → List Int} (h : Inv cs D W R) {i : Nat} {c c' : Cn} (hc : cs[i]? = some c) (hm : c'.m = (mCut c.m).2) : Inv (cs.set i c') D W R ∧ c'.m.ct = true := by
  have : (mCut c.m).2.ct = true ∧ ((mCut c.m).2 = c.m ∨ ∀ s, ((mCut c.m).2.sd s).us = [] ∧ ((mCut c.m).2.sd s).ar = []) := by
    unfold mCut
    cases hct : c.m.ct with
    | true => exact ⟨hct, .inl rfl⟩
    | false => exact ⟨rfl, .inr fun s => by cases s <;> exact ⟨rfl, rfl⟩⟩
  rw [← hm] at this
  obtain ⟨h1, h2⟩ := this
  refine ⟨?_, h1⟩
  rcases h2 with e | e
  · exact h.still hc e
  · refine h.set (Nat.le_refl _) hc (fun s => by rw [(e s).1, (e (!s)).2]; simp) h.wl (fun _ => ⟨fun hf => ?_⟩) (fun _ _ h => h) h.pre
    rw [h1] at hf; cases hf
end Go.Proofs.Ytcbnmoppnoiggaa
