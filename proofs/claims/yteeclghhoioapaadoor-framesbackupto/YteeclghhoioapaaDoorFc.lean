/-
  How the program reads a payload: the same.
-/
import Derived.Test.YteeclghhoioapaaDoorFb
namespace Go.Proofs.YteeclghhoioapaaDoor
set_option linter.unusedVariables false
/-! The program's reading: a cursor. -/
structure Cur where
  rest : List Int
  short : Bool
def sgn (n : Int) : Int := if n < 9223372036854775808 then n else n - 18446744073709551616
def Cur.tk (n : Int) (c : Cur) : List Int × Cur := if (c.rest.length : Int) < n then ([], ⟨c.rest, true⟩) else (c.rest.take n.toNat, ⟨c.rest.drop n.toNat, c.short⟩)
def Cur.nm (w : Nat) (c : Cur) : Int × Cur := (sgn (val (c.tk w).1), (c.tk w).2)
def Cur.tx (w : Nat) (c : Cur) : ByteArray × Cur := (bstr ((c.nm w).2.tk (c.nm w).1).1, ((c.nm w).2.tk (c.nm w).1).2)
/-- What read answers, and whether that is a message's payload. -/
def endC (m : Ms) (c : Cur) : Ms × Bool := (m, !c.short && decide (c.rest = []) && okM m)
def pread (p : List Int) : Ms × Bool :=
  let k := Cur.nm 1 ⟨p, false⟩
  if k.1 = 1 then
    let a := k.2.tx 1
    let b := a.2.nm 8
    endC { kind := 1, name := a.1, ver := b.1 } b.2
  else if k.1 = 2 then
    let a := k.2.nm 8
    let b := a.2.nm 8
    let c := b.2.nm 8
    let d := c.2.tx 4
    endC { kind := 2, non := a.1, frm := b.1, ver := c.1, text := d.1 } d.2
  else if k.1 = 3 then
    let a := k.2.nm 8
    let b := a.2.nm 8
    endC { kind := 3, non := a.1, ver := b.1 } b.2
  else if k.1 = 4 then
    let a := k.2.nm 8
    let b := a.2.nm 8
    let c := b.2.nm 2
    endC { kind := 4, non := a.1, ver := b.1, err := c.1 } c.2
  else if k.1 = 5 then
    let a := k.2.nm 8
    endC { kind := 5, non := a.1 } a.2
  else endC { kind := k.1 } k.2

theorem tk_at (a b : List Int) (s : Bool) (n : Int) (h : n = (a.length : Int)) : Cur.tk n ⟨a ++ b, s⟩ = (a, ⟨b, s⟩) := by
  subst h
  unfold Cur.tk
  rw [if_neg (by simp; omega)]
  simp
theorem sgn_num (n : Int) (h : num n = true) : sgn n = n := by
  have := num_bd n h
  unfold sgn; rw [if_pos (by omega)]
theorem nm_at (w : Nat) (n : Int) (b : List Int) (s : Bool) (h : num n = true) (hn : n < 256 ^ w) : Cur.nm w ⟨digs w n ++ b, s⟩ = (n, ⟨b, s⟩) := by
  unfold Cur.nm
  rw [tk_at _ _ _ _ (by rw [digs_length]), digs_back w n (num_bd n h).1 hn, sgn_num n h]
theorem tx_at (w : Nat) (s : ByteArray) (b : List Int) (f : Bool) (h : num s.size = true) (hn : (s.size : Int) < 256 ^ w) : Cur.tx w ⟨digs w s.size ++ (sb s ++ b), f⟩ = (s, ⟨b, f⟩) := by
  unfold Cur.tx
  rw [nm_at w _ _ _ h hn, tk_at _ _ _ _ (by rw [sb_length]), bstr_sb]
theorem nm1 (k : Int) (h0 : 0 ≤ k) (h1 : k ≤ 255) (b : List Int) (s : Bool) : Cur.nm 1 ⟨k :: b, s⟩ = (k, ⟨b, s⟩) := by
  have e : k :: b = digs 1 k ++ b := by simp [digs]; omega
  rw [e]
  exact nm_at 1 k b s (by simp [num]; omega) (by omega)
theorem says_pread (p : List Int) (m : Ms) (h : Says p m) : pread p = (m, true) := by
  obtain ⟨ho, rfl, hp⟩ := h
  have ho' := ho
  unfold okM at ho
  unfold pread
  split at ho
  · rename_i hk
    simp only [Bool.and_eq_true, decide_eq_true_eq] at ho
    obtain ⟨⟨n1, n2⟩, hv⟩ := ho
    have e : payM m = 1 :: (digs 1 m.name.size ++ (sb m.name ++ digs 8 m.ver)) := by unfold payM; rw [if_pos hk]
    have t1 := tx_at 1 m.name (digs 8 m.ver) false (by simp [num]; omega) (by omega)
    have t2 := nm_at 8 m.ver [] false hv (num8 _ hv)
    rw [List.append_nil] at t2
    simp only [e, nm1 1 (by decide) (by decide), if_true]
    rw [t1]; simp only; rw [t2]
    unfold plainM at hp; rw [if_pos hk] at hp
    simp only [endC, hp, ho']; rfl
  split at ho
  · rename_i hk1 hk
    simp only [Bool.and_eq_true, decide_eq_true_eq] at ho
    obtain ⟨⟨⟨hn, hf⟩, hv⟩, ht⟩ := ho
    have e : payM m = 2 :: (digs 8 m.non ++ (digs 8 m.frm ++ (digs 8 m.ver ++ (digs 4 m.text.size ++ sb m.text)))) := by unfold payM; rw [if_neg hk1, if_pos hk]
    have t1 := nm_at 8 m.non (digs 8 m.frm ++ (digs 8 m.ver ++ (digs 4 m.text.size ++ sb m.text))) false hn (num8 _ hn)
    have t2 := nm_at 8 m.frm (digs 8 m.ver ++ (digs 4 m.text.size ++ sb m.text)) false hf (num8 _ hf)
    have t3 := nm_at 8 m.ver (digs 4 m.text.size ++ sb m.text) false hv (num8 _ hv)
    have t4 := tx_at 4 m.text [] false (by simp [num]; omega) (by omega)
    rw [List.append_nil] at t4
    simp only [e, nm1 2 (by decide) (by decide), if_true]
    rw [if_neg (by decide)]
    rw [t1]; simp only; rw [t2]; simp only; rw [t3]; simp only; rw [t4]
    unfold plainM at hp; rw [if_neg hk1, if_pos hk] at hp
    simp only [endC, hp, ho']; rfl
  split at ho
  · rename_i hk1 hk2 hk
    simp only [Bool.and_eq_true] at ho
    obtain ⟨hn, hv⟩ := ho
    have e : payM m = 3 :: (digs 8 m.non ++ digs 8 m.ver) := by unfold payM; rw [if_neg hk1, if_neg hk2, if_pos hk]
    have t1 := nm_at 8 m.non (digs 8 m.ver) false hn (num8 _ hn)
    have t2 := nm_at 8 m.ver [] false hv (num8 _ hv)
    rw [List.append_nil] at t2
    simp only [e, nm1 3 (by decide) (by decide), if_true]
    rw [if_neg (by decide), if_neg (by decide)]
    rw [t1]; simp only; rw [t2]
    unfold plainM at hp; rw [if_neg hk1, if_neg hk2, if_pos hk] at hp
    simp only [endC, hp, ho']; rfl
  split at ho
  · rename_i hk1 hk2 hk3 hk
    simp only [Bool.and_eq_true, decide_eq_true_eq] at ho
    obtain ⟨⟨hn, hv⟩, he⟩ := ho
    have e : payM m = 4 :: (digs 8 m.non ++ (digs 8 m.ver ++ digs 2 m.err)) := by unfold payM; rw [if_neg hk1, if_neg hk2, if_neg hk3, if_pos hk]
    have t1 := nm_at 8 m.non (digs 8 m.ver ++ digs 2 m.err) false hn (num8 _ hn)
    have t2 := nm_at 8 m.ver (digs 2 m.err) false hv (num8 _ hv)
    have t3 := nm_at 2 m.err [] false (by simp [num]; omega) (by omega)
    rw [List.append_nil] at t3
    simp only [e, nm1 4 (by decide) (by decide), if_true]
    rw [if_neg (by decide), if_neg (by decide), if_neg (by decide)]
    rw [t1]; simp only; rw [t2]; simp only; rw [t3]
    unfold plainM at hp; rw [if_neg hk1, if_neg hk2, if_neg hk3, if_pos hk] at hp
    simp only [endC, hp, ho']; rfl
  split at ho
  · rename_i hk1 hk2 hk3 hk4 hk
    have e : payM m = 5 :: digs 8 m.non := by unfold payM; rw [if_neg hk1, if_neg hk2, if_neg hk3, if_neg hk4]
    have t1 := nm_at 8 m.non [] false ho (num8 _ ho)
    rw [List.append_nil] at t1
    simp only [e, nm1 5 (by decide) (by decide), if_true]
    rw [if_neg (by decide), if_neg (by decide), if_neg (by decide), if_neg (by decide)]
    rw [t1]
    unfold plainM at hp; rw [if_neg hk1, if_neg hk2, if_neg hk3, if_neg hk4, hk] at hp
    simp only [endC, hp, ho']; rfl
  · cases ho

/-- Where the cursor is not short behind a step, it was not ahead of it, and the step took what it wanted. -/
theorem tk_back (n : Int) (c : Cur) (h0 : 0 ≤ n) (hs : (c.tk n).2.short = false) : c.short = false ∧ c.rest = (c.tk n).1 ++ (c.tk n).2.rest ∧ ((c.tk n).1.length : Int) = n := by
  unfold Cur.tk at hs ⊢
  split at hs
  · cases hs
  · rename_i h
    rw [if_neg h]
    refine ⟨hs, (List.take_append_drop _ _).symm, ?_⟩
    rw [List.length_take]; omega
theorem nm_back (w : Nat) (hw : w ≤ 8) (c : Cur) (ho : Octets c.rest) (hs : (c.nm w).2.short = false) (hn : 0 ≤ (c.nm w).1) : c.short = false ∧ c.rest = digs w (c.nm w).1 ++ (c.nm w).2.rest ∧ Octets (c.nm w).2.rest := by
  unfold Cur.nm at hs hn ⊢
  obtain ⟨h1, h2, h3⟩ := tk_back w c (by omega) hs
  obtain ⟨a, ha⟩ : ∃ a, (c.tk w).1 = a := ⟨_, rfl⟩
  obtain ⟨d, hd⟩ : ∃ d, (c.tk w).2 = d := ⟨_, rfl⟩
  simp only [ha, hd] at h2 h3 hn ⊢
  have hl : a.length = w := by omega
  have oa : Octets a := by have := ho.take a.length; rw [h2, List.take_left] at this; exact this
  have od : Octets d.rest := by have := ho.drop a.length; rw [h2, List.drop_left] at this; exact this
  have b := val_bd a oa
  rw [hl] at b
  have b8 : (256 : Int) ^ w ≤ 256 ^ 8 := (by decide +kernel : ∀ v : Nat, v ≤ 8 → (256 : Int) ^ v ≤ 256 ^ 8) w hw
  rw [pow8] at b8
  have es : sgn (val a) = val a := by
    unfold sgn at hn ⊢
    split at hn
    · rename_i g; rw [if_pos g]
    · omega
  refine ⟨h1, ?_, od⟩
  rw [es, ← hl, val_digs a oa]; exact h2
theorem nm_pos (w : Nat) (hw : w ≤ 4) (c : Cur) (ho : Octets c.rest) : 0 ≤ (c.nm w).1 := by
  unfold Cur.nm Cur.tk
  split
  · exact Int.le_refl 0
  · have oa := ho.take w
    have b := val_bd _ oa
    have hl : (c.rest.take w).length = w := by simp; omega
    rw [hl] at b
    have b8 : (256 : Int) ^ w ≤ 256 ^ 4 := (by decide +kernel : ∀ v : Nat, v ≤ 4 → (256 : Int) ^ v ≤ 256 ^ 4) w hw
    have p4 : (256 : Int) ^ 4 = 4294967296 := by decide
    rw [p4] at b8
    simp only [Int.toNat_natCast, sgn]
    rw [if_pos (by omega)]; omega
theorem tx_back (w : Nat) (hw : w ≤ 4) (c : Cur) (ho : Octets c.rest) (hs : (c.tx w).2.short = false) : c.short = false ∧ c.rest = digs w (c.tx w).1.size ++ (sb (c.tx w).1 ++ (c.tx w).2.rest) ∧ Octets (c.tx w).2.rest := by
  unfold Cur.tx at hs ⊢
  have hn := nm_pos w hw c ho
  obtain ⟨h1, h2, h3⟩ := tk_back _ _ hn hs
  obtain ⟨g1, g2, g3⟩ := nm_back w (by omega) c ho h1 hn
  obtain ⟨a, ha⟩ : ∃ a, ((c.nm w).2.tk (c.nm w).1).1 = a := ⟨_, rfl⟩
  obtain ⟨d, hd⟩ : ∃ d, ((c.nm w).2.tk (c.nm w).1).2 = d := ⟨_, rfl⟩
  simp only [ha, hd] at h2 h3 ⊢
  have oa : Octets a := by have := g3.take a.length; rw [h2, List.take_left] at this; exact this
  have od : Octets d.rest := by have := g3.drop a.length; rw [h2, List.drop_left] at this; exact this
  refine ⟨g1, ?_, od⟩
  rw [bstr_size, sb_bstr a oa, h3, ← h2]; exact g2
theorem endC_yes {m n : Ms} {c : Cur} (h : endC m c = (n, true)) : m = n ∧ c.short = false ∧ c.rest = [] ∧ okM m = true := by
  unfold endC at h
  obtain ⟨h1, h2⟩ := Prod.mk.inj h
  simp at h2
  exact ⟨h1, h2.1.1, h2.1.2, h2.2⟩
theorem okM1 {m : Ms} (hk : m.kind = 1) (h : okM m = true) : num m.ver = true := by
  unfold okM at h; rw [if_pos hk] at h; simp at h; exact h.2
theorem okM2 {m : Ms} (hk : m.kind = 2) (h : okM m = true) : num m.non = true ∧ num m.frm = true ∧ num m.ver = true := by
  unfold okM at h; rw [hk] at h; simp at h; exact ⟨h.1.1.1, h.1.1.2, h.1.2⟩
theorem okM3 {m : Ms} (hk : m.kind = 3) (h : okM m = true) : num m.non = true ∧ num m.ver = true := by
  unfold okM at h; rw [hk] at h; simp at h; exact h
theorem okM4 {m : Ms} (hk : m.kind = 4) (h : okM m = true) : num m.non = true ∧ num m.ver = true ∧ 1 ≤ m.err := by
  unfold okM at h; rw [hk] at h; simp at h; exact ⟨h.1.1, h.1.2, h.2.1⟩
theorem okM5 {m : Ms} (hk : m.kind = 5) (h : okM m = true) : num m.non = true := by
  unfold okM at h; rw [hk] at h; simp at h; exact h
theorem digs1 (k : Int) (h0 : 0 ≤ k) (h1 : k ≤ 255) : digs 1 k = [k] := by simp [digs]; omega
theorem nm_short (w : Nat) (c : Cur) (hs : (c.nm w).2.short = false) : c.short = false := (tk_back w c (by omega) hs).1
theorem tx_short (w : Nat) (hw : w ≤ 4) (c : Cur) (ho : Octets c.rest) (hs : (c.tx w).2.short = false) : c.short = false := (tx_back w hw c ho hs).1
theorem pread_says (p : List Int) (m : Ms) (ho : Octets p) (h : pread p = (m, true)) : Says p m := by
  unfold pread at h
  have first : ∀ k : Int, 0 ≤ k → k ≤ 255 → (Cur.nm 1 ⟨p, false⟩).1 = k → (Cur.nm 1 ⟨p, false⟩).2.short = false → p = k :: (Cur.nm 1 ⟨p, false⟩).2.rest ∧ Octets (Cur.nm 1 ⟨p, false⟩).2.rest := by
    intro k k0 k1 hk hs
    have b := nm_back 1 (by decide) ⟨p, false⟩ ho hs (by rw [hk]; exact k0)
    rw [hk, digs1 k k0 k1] at b
    exact ⟨b.2.1, b.2.2⟩
  obtain ⟨K, hK⟩ : ∃ K, Cur.nm 1 ⟨p, false⟩ = K := ⟨_, rfl⟩
  rw [hK] at h first
  have oK : Octets K.2.rest := by
    rw [← hK]; unfold Cur.nm Cur.tk
    split
    · exact ho
    · exact ho.drop _
  simp only at h
  split at h
  · rename_i hk
    obtain ⟨rfl, e1, e2, e3⟩ := endC_yes h
    have n1 := okM1 rfl e3
    have s1 := nm_short _ _ e1
    obtain ⟨s0, a1, a2⟩ := tx_back 1 (by decide) _ oK s1
    obtain ⟨_, b1, b2⟩ := nm_back 8 (by decide) _ a2 e1 (num_bd _ n1).1
    rw [e2, List.append_nil] at b1
    rw [b1] at a1
    have hp := first 1 (by decide) (by decide) hk s0
    refine ⟨e3, ?_, rfl⟩
    rw [hp.1, a1]; rfl
  split at h
  · rename_i hk
    obtain ⟨rfl, e1, e2, e3⟩ := endC_yes h
    obtain ⟨n1, n2, n3⟩ := okM2 rfl e3
    have o1 : ∀ c : Cur, Octets c.rest → Octets (c.nm 8).2.rest := fun c hc => by
      unfold Cur.nm Cur.tk
      split
      · exact hc
      · exact hc.drop _
    have q1 := o1 _ oK
    have q2 := o1 _ q1
    have q3 := o1 _ q2
    obtain ⟨s3, d1, d2⟩ := tx_back 4 (by decide) _ q3 e1
    obtain ⟨s2, c1, c2⟩ := nm_back 8 (by decide) _ q2 s3 (num_bd _ n3).1
    obtain ⟨s1, b1, b2⟩ := nm_back 8 (by decide) _ q1 s2 (num_bd _ n2).1
    obtain ⟨s0, a1, a2⟩ := nm_back 8 (by decide) _ oK s1 (num_bd _ n1).1
    rw [e2, List.append_nil] at d1
    rw [d1] at c1
    rw [c1] at b1
    rw [b1] at a1
    have hp := first 2 (by decide) (by decide) hk s0
    refine ⟨e3, ?_, rfl⟩
    rw [hp.1, a1]; rfl
  split at h
  · rename_i hk
    obtain ⟨rfl, e1, e2, e3⟩ := endC_yes h
    obtain ⟨n1, n2⟩ := okM3 rfl e3
    have s1 := nm_short _ _ e1
    obtain ⟨s0, a1, a2⟩ := nm_back 8 (by decide) _ oK s1 (num_bd _ n1).1
    obtain ⟨_, b1, b2⟩ := nm_back 8 (by decide) _ a2 e1 (num_bd _ n2).1
    rw [e2, List.append_nil] at b1
    rw [b1] at a1
    have hp := first 3 (by decide) (by decide) hk s0
    refine ⟨e3, ?_, rfl⟩
    rw [hp.1, a1]; rfl
  split at h
  · rename_i hk
    obtain ⟨rfl, e1, e2, e3⟩ := endC_yes h
    obtain ⟨n1, n2, n3⟩ := okM4 rfl e3
    have s2 := nm_short _ _ e1
    have s1 := nm_short _ _ s2
    obtain ⟨s0, a1, a2⟩ := nm_back 8 (by decide) _ oK s1 (num_bd _ n1).1
    obtain ⟨_, b1, b2⟩ := nm_back 8 (by decide) _ a2 s2 (num_bd _ n2).1
    obtain ⟨_, c1, c2⟩ := nm_back 2 (by decide) _ b2 e1 (Int.le_trans (by decide) n3)
    rw [e2, List.append_nil] at c1
    rw [c1] at b1
    rw [b1] at a1
    have hp := first 4 (by decide) (by decide) hk s0
    refine ⟨e3, ?_, rfl⟩
    rw [hp.1, a1]; rfl
  split at h
  · rename_i hk
    obtain ⟨rfl, e1, e2, e3⟩ := endC_yes h
    have n1 := okM5 rfl e3
    obtain ⟨s0, a1, a2⟩ := nm_back 8 (by decide) _ oK e1 (num_bd _ n1).1
    rw [e2, List.append_nil] at a1
    have hp := first 5 (by decide) (by decide) hk s0
    refine ⟨e3, ?_, rfl⟩
    rw [hp.1, a1]; rfl
  · rename_i h1 h2 h3 h4 h5
    obtain ⟨rfl, e1, e2, e3⟩ := endC_yes h
    unfold okM at e3
    rw [if_neg h1, if_neg h2, if_neg h3, if_neg h4, if_neg h5] at e3
    cases e3
/-- Both readings tell the same. -/
theorem pread_read (p : List Int) (ho : Octets p) : pread p = ((pread p).1, (readM p).isSome) ∧ ∀ m, readM p = some m → (pread p).1 = m := by
  rcases hr : readM p with _ | m
  · refine ⟨?_, fun m h => by cases h⟩
    rcases hp : pread p with ⟨m, b⟩
    cases b
    · rfl
    · have := says_read p m (pread_says p m ho hp); rw [hr] at this; cases this
  · have := says_pread p m (readM_says p m hr)
    rw [this]
    exact ⟨rfl, fun n h => by cases h; rfl⟩
end Go.Proofs.YteeclghhoioapaaDoor
