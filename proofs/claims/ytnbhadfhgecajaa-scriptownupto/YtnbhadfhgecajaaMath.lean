/-
  Plain facts: what bytes say, there and back.
-/
import Derived.Test.YtnbhadfhgecajaaDecode
namespace Go.Proofs.Ytnbhadfhgecajaa
open Go.RowKit
set_option linter.unusedVariables false

/-- What of a step counts. -/
def ssig (s : St) : Int × Int × Int × Nat × List Int := (s.op, s.x, s.y, s.d.n, s.d.zs)
theorem isStep_sig {zs zs' : List Int} {s t : St} (h : zs = zs') (hs : IsStep zs s) (ht : IsStep zs' t) : ssig s = ssig t := by
  subst h
  unfold ssig
  rw [hs.op, hs.x, hs.y, hs.dn, hs.dz, ht.op, ht.x, ht.y, ht.dn, ht.dz]
/-- The same bytes say the same steps. -/
theorem det : ∀ (xs ys : List Told) (zs zs' : List Int) (k k' : Nat), zs.drop k = zs'.drop k' → AllOf zs k xs → AllOf zs' k' ys → xs.map (fun x => ssig x.s) = ys.map (fun x => ssig x.s)
  | [], [], _, _, _, _, _, _, _ => rfl
  | [], y :: r, zs, zs', k, k', h, h1, h2 => by
    have a1 := h1.2
    have a2 := h2.1.1.1
    have := congrArg List.length h
    simp only [lastOf, List.length_drop] at *
    omega
  | x :: q, [], zs, zs', k, k', h, h1, h2 => by
    have a1 := h2.2
    have a2 := h1.1.1.1
    have := congrArg List.length h
    simp only [lastOf, List.length_drop] at *
    omega
  | x :: q, y :: r, zs, zs', k, k', h, h1, h2 => by
    obtain ⟨⟨⟨hk, hx, hs⟩, hq⟩, hl⟩ := h1
    obtain ⟨⟨⟨hk', hx', hs'⟩, hq'⟩, hl'⟩ := h2
    have e : zs.drop (k + takes (zs.drop k)) = zs'.drop (k' + takes (zs'.drop k')) := by
      rw [← List.drop_drop, ← List.drop_drop, h]
    have := det q r zs zs' _ _ e ⟨hq, hl⟩ ⟨hq', hl'⟩
    simp only [List.map_cons, this, isStep_sig h hs hs']

theorem first_form (s : St) (rest : List Int) (hm : MayBe s) (hl : s.d.zs.length = s.d.n) : IsStep (formOf s ++ rest) s ∧ takes (formOf s ++ rest) = (formOf s).length := by
  obtain ⟨op, x, y, a, n, c, zs⟩ := s
  obtain ⟨⟨h0, h1⟩, ⟨h2, h3⟩, ⟨h4, h5⟩, h6⟩ := hm
  dsimp only at h0 h1 h2 h3 h4 h5 h6 hl
  have hop : opOf (formOf ⟨op, x, y, ⟨a, n, c, zs⟩⟩ ++ rest) = op := by
    simp [opOf, formOf]; omega
  by_cases hc : carries op
  · rw [if_pos hc] at h6
    have hF : formOf ⟨op, x, y, ⟨a, n, c, zs⟩⟩ = [op, x, y, (n : Int) % 256, (n : Int) / 256] ++ zs := by
      unfold formOf; rw [if_pos hc]; simp
    have hsz : sizeOf' (formOf ⟨op, x, y, ⟨a, n, c, zs⟩⟩ ++ rest) = n := by
      rw [hF]; simp [sizeOf', hl]; omega
    have hd : dataOf (formOf ⟨op, x, y, ⟨a, n, c, zs⟩⟩ ++ rest) = zs := by
      unfold dataOf; rw [hop, if_pos hc, hsz, hF]
      simp only [List.cons_append, List.nil_append, List.drop_succ_cons, List.drop_zero]
      exact List.take_left' hl
    refine ⟨⟨hop.symm, by rw [hF]; simp, by rw [hF]; simp, hd.symm, by rw [hd, hl]⟩, ?_⟩
    unfold takes; rw [hop, if_pos hc, hsz, hF]; simp; omega
  · rw [if_neg hc] at h6
    subst h6
    obtain rfl : zs = [] := List.length_eq_zero_iff.1 hl
    have hF : formOf ⟨op, x, y, ⟨a, 0, c, []⟩⟩ = [op, x, y] := by
      unfold formOf; rw [if_neg hc]; simp
    have hd : dataOf (formOf ⟨op, x, y, ⟨a, 0, c, []⟩⟩ ++ rest) = [] := by
      unfold dataOf; rw [hop, if_neg hc]
    refine ⟨⟨hop.symm, by rw [hF]; simp, by rw [hF]; simp, hd.symm, by rw [hd]; rfl⟩, ?_⟩
    unfold takes; rw [hop, if_neg hc, hF]; simp

/-- Bytes of steps, with others behind them, are these steps and then those of the others. -/
theorem back : ∀ (ss : List St) (xs ys : List Told) (zs behind : List Int) (k : Nat), (∀ s ∈ ss, MayBe s ∧ s.d.zs.length = s.d.n) → zs.drop k = formAll ss ++ behind → AllOf zs k xs → AllOf behind 0 ys →
    xs.map (fun x => ssig x.s) = ss.map ssig ++ ys.map (fun x => ssig x.s)
  | [], xs, ys, zs, behind, k, _, h, h1, h2 => by
    have := det xs ys zs behind k 0 (by simpa [formAll] using h) h1 h2
    simpa using this
  | s :: r, xs, ys, zs, behind, k, hs, h, h1, h2 => by
    have e : formAll (s :: r) = formOf s ++ formAll r := by simp [formAll]
    rw [e, List.append_assoc] at h
    obtain ⟨f1, f2⟩ := first_form s (formAll r ++ behind) (hs s (by simp)).1 (hs s (by simp)).2
    rw [← h] at f1 f2
    cases xs with
    | nil =>
      have a1 := h1.2
      have := congrArg List.length h
      simp only [lastOf, List.length_drop, List.length_append] at *
      have : 3 ≤ (formOf s).length := by simp [formOf]
      omega
    | cons x q =>
      obtain ⟨⟨⟨hk, hx, hxs⟩, hq⟩, hlast⟩ := h1
      have e2 : zs.drop (k + takes (zs.drop k)) = formAll r ++ behind := by
        rw [← List.drop_drop, f2, h, List.drop_left]
      have := back r q ys zs behind _ (fun t ht => hs t (by simp [ht])) e2 ⟨hq, hlast⟩ h2
      simp only [List.map_cons, List.cons_append, this, isStep_sig rfl hxs f1]

theorem data_octets {zs : List Int} (h : Octets zs) : Octets (dataOf zs) := by
  unfold dataOf
  split
  · exact (h.drop 5).take _
  · exact Octets.nil
theorem isStep_may {zs : List Int} {s : St} (hz : Octets zs) (h : IsStep zs s) : MayBe s ∧ Octets s.d.zs ∧ s.d.zs.length = s.d.n ∧ s.d.n ≤ 65535 := by
  have z0 := hz 0
  have z1 := hz 1
  have z2 := hz 2
  have z3 := hz 3
  have z4 := hz 4
  have hl : s.d.zs.length = s.d.n := by rw [h.dz, h.dn]
  have hn : s.d.n ≤ 65535 := by
    rw [h.dn]
    unfold dataOf sizeOf'
    split
    · rw [List.length_take]; omega
    · simp
  refine ⟨⟨by rw [h.op]; unfold opOf; omega, by rw [h.x]; exact z1, by rw [h.y]; exact z2, ?_⟩, by rw [h.dz]; exact data_octets hz, hl, hn⟩
  split
  · exact hn
  · rename_i hc
    rw [h.dn]; unfold dataOf; rw [← h.op, if_neg hc]; rfl
theorem row_may {zs : List Int} (hz : Octets zs) : ∀ (xs : List Told) (k : Nat), Row1 zs k xs → ∀ x ∈ xs, MayBe x.s ∧ Octets x.s.d.zs ∧ x.s.d.zs.length = x.s.d.n ∧ x.s.d.n ≤ 65535
  | [], _, _, x, hx => by cases hx
  | y :: r, k, h, x, hx => by
    rcases List.mem_cons.1 hx with rfl | hx
    · exact isStep_may (hz.drop k) h.1.2.2
    · exact row_may hz r _ h.2 x hx
/-- How much there is of the steps that bytes say. -/
theorem row_sum (zs : List Int) : ∀ (xs : List Told) (k : Nat), Row1 zs k xs → ((xs.map (·.s)).map fun s => 5 + s.d.n).sum + 5 * k ≤ 5 * max k zs.length
  | [], k, _ => by simp; omega
  | x :: r, k, h => by
    obtain ⟨⟨hk, _, hs⟩, hr⟩ := h
    have ih := row_sum zs r _ hr
    have hd : 5 + x.s.d.n ≤ 5 * takes (zs.drop k) := by
      rw [hs.dn]
      unfold dataOf takes sizeOf'
      split
      · rw [List.length_take, List.length_drop, List.length_drop]; omega
      · simp; omega
    have ht := takes_le (zs.drop k)
    rw [List.length_drop] at ht
    simp only [List.map_cons, List.sum_cons]
    omega
end Go.Proofs.Ytnbhadfhgecajaa
