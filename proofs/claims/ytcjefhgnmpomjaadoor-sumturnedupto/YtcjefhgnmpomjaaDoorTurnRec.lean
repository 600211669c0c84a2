/-
  A frame in whose payload, or sum, some bits were turned begins no record.
-/
import Derived.Test.YtcjefhgnmpomjaaDoorTurnMath
import Derived.Test.YtcjefhgnmpomjaaDoorCutMath
namespace Go.Proofs.YtcjefhgnmpomjaaDoor
open Go.RowKit
set_option linter.unusedVariables false

theorem four_inj (x y : Int) (h0 : 0 ≤ x) (h1 : x < 4294967296) (g0 : 0 ≤ y) (g1 : y < 4294967296) (h : four x = four y) : x = y := by
  simp only [four, List.cons.injEq] at h
  obtain ⟨a, b, c, d, _⟩ := h
  omega
theorem four_length (x : Int) : (four x).length = 4 := rfl

theorem turned_rec (ss ys tail : List Int) (hs : ss.length = 4) (hy : Octets ys) (hos : Octets ss) (hot : Octets tail) (hl : ys.length ≤ 131072) (hne : ss ≠ four (sumOf ys)) :
    ∀ N, ¬ IsRec (four ys.length ++ (ss ++ ys) ++ tail) N := by
  intro N hN
  have h4 : Octets (four ys.length) := four_octets ys.length (by omega) (by omega)
  have hO : Octets (four ys.length ++ (ss ++ ys) ++ tail) := (h4.append (hos.append hy)).append hot
  have hnum := hN.2.1
  obtain ⟨p, q, r, s, rfl⟩ : ∃ p q r s, ss = [p, q, r, s] := by
    match ss, hs with
    | [p, q, r, s], _ => exact ⟨p, q, r, s, rfl⟩
  have e : N = ys.length := by
    simp [four] at hnum
    omega
  subst e
  have := (rec_iff _ ys.length hO (by simp [four]) hnum hl (by simp [four])).2 hN
  have d8 : ((four (ys.length : Int) ++ ([p, q, r, s] ++ ys) ++ tail).drop 8).take ys.length = ys := by
    simp [four]
  have t8 : (four (ys.length : Int) ++ ([p, q, r, s] ++ ys) ++ tail).take (8 + ys.length) = four ys.length ++ ([p, q, r, s] ++ ys) := by
    rw [List.take_left' (by simp [four]; omega)]
  rw [d8, t8] at this
  unfold frame at this
  have h2 := List.append_cancel_left this
  have h3 := List.append_cancel_right h2
  exact hne h3.symm

/-- The payload was turned, the sum stands. -/
theorem turned_payload (zs ys : List Int) (f : Nat) (hz : Octets zs) (hy : Octets ys) (hl : zs.length = ys.length) (hL : ys.length ≤ 131072) (hw : ∀ i, (i < f ∨ f + 32 ≤ i) → (bitsOf zs)[i]? = (bitsOf ys)[i]?) (hne : zs ≠ ys) : four (sumOf zs) ≠ four (sumOf ys) := by
  intro h
  have b1 := sumOf_bd zs hz (by omega)
  have b2 := sumOf_bd ys hy (by omega)
  have e := four_inj _ _ b1.1 b1.2 b2.1 b2.2 h
  unfold sumOf check at e
  rw [hl] at e
  have O4 : Octets [(ys.length : Int) / 16777216, (ys.length : Int) / 65536 % 256, (ys.length : Int) / 256 % 256, (ys.length : Int) % 256] := four_octets ys.length (by omega) (by omega)
  have bc := moreF_bd 0 _ O4 (by decide) (by decide)
  exact hne (more_turned _ zs ys f hz hy bc.1 bc.2 hl hw e)
end Go.Proofs.YtcjefhgnmpomjaaDoor
