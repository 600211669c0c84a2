/-
  What a decision says: plain.
-/
import Derived.Test.YtfhobglcploaoaaDoorHa
namespace Go.Proofs.YtfhobglcploaoaaDoor
open Go.RowKit
set_option linter.unusedVariables false
set_option linter.unusedSimpArgs false
theorem dec_all (l : List Ho) (hs : List Hy) (me ho pa : ByteArray) (u : Nat) (n : Int) :
    (∃ (i : Nat) (x : Ho) (r : Nat) (en : En) (o : Hy) (p : ByteArray), fndF l ho = some i ∧ l[i]? = some x ∧ rulF x.ens me pa = some r ∧ alwB x.pms me pa = true ∧ x.ens[r]? = some en ∧ epsF hs (shF en.shs u) = some o ∧ o.eps[pickN n o.eps.length]? = some p ∧ decF l hs me ho pa u n = ⟨1, 0, x.ro, r, shF en.shs u, p⟩) ∨
    ((decF l hs me ho pa u n).kd ≠ 1 ∧ (decF l hs me ho pa u n).ep = e0 ∧ 400 ≤ (decF l hs me ho pa u n).st) := by
  rcases hf : fndF l ho with _ | i
  · right; rw [dec2 hf]; exact ⟨by decide, rfl, by decide⟩
  obtain ⟨x, hx, -⟩ := idx_spec hf
  rcases hr : rulF x.ens me pa with _ | r
  · right; rw [dec3 hf hx hr]; exact ⟨by simp, rfl, by simp⟩
  rcases ha : alwB x.pms me pa with _ | _
  · right; rw [dec4 hf hx hr ha]; exact ⟨by simp, rfl, by simp⟩
  obtain ⟨en, hen, -⟩ := idx_spec hr
  rcases hep : epsF hs (shF en.shs u) with _ | o
  · right; rw [dec5 hf hx hr ha hen (by rw [hep]; rfl)]; exact ⟨by simp, rfl, by simp⟩
  by_cases hz : o.eps.length = 0
  · right; rw [dec5 hf hx hr ha hen (by rw [hep]; exact hz)]; exact ⟨by simp, rfl, by simp⟩
  · left
    have hlo : (0 : Int) ≤ max n 0 % (o.eps.length : Int) := Int.emod_nonneg _ (by omega)
    have hhi : max n 0 % (o.eps.length : Int) < (o.eps.length : Int) := Int.emod_lt_of_pos _ (by omega)
    have hk : pickN n o.eps.length < o.eps.length := by unfold pickN; omega
    refine ⟨i, x, r, en, o, o.eps[pickN n o.eps.length], rfl, hx, hr, ha, hen, hep, List.getElem?_eq_getElem hk, dec1 hf hx hr ha hen (by rw [hep]; exact List.getElem?_eq_getElem hk)⟩
theorem e0_toList : e0.toList = [] := by kernel_rfl
theorem shF_mem {l : List Sh} {u : Nat} (h : (shF l u).toList.isEmpty = false) : ∃ (j : Nat) (o : Sh), l[j]? = some o ∧ o.sv = shF l u := by
  unfold shF at h ⊢
  rcases ho : l[min (plF l u) (l.length - 1)]? with _ | o
  · rw [ho] at h
    have h2 : e0.toList.isEmpty = false := h
    rw [e0_toList] at h2; cases h2
  · exact ⟨_, o, ho, rfl⟩
theorem epsF_at2 {l : List Hy} {s : ByteArray} {o : Hy} (h : epsF l s = some o) : ∃ j : Nat, l[j]? = some o ∧ o.sv.toList = s.toList ∧ s.toList.isEmpty = false := by
  obtain ⟨h1, h2, h3⟩ := epsF_mem h
  obtain ⟨j, hj⟩ := List.getElem?_of_mem h1
  exact ⟨j, hj, h2, h3⟩
end Go.Proofs.YtfhobglcploaoaaDoor
