/- Asking a registry: an endpoint's state, whether it is healthy; goingOn; become. -/
import Derived.Test.YtidpglbokpgpbaaRd
namespace Go.Proofs.Ytidpglbokpgpbaa
open Go.RowKit
set_option linter.unusedVariables false
set_option linter.unusedSimpArgs false
set_option maxRecDepth 100000
theorem state_any (w : World) (base b n : Nat) (r : Rg) (h : Rr w base b n r) (k : ByteArray) (hk : okS k) :
    Calls Try.prog 22 #[.pointer (some ⟨b, 0, none⟩), .string k] w fun e w' => e = .returned (ptrO (r.pl k)) ∧ w' = w := by
  obtain ⟨c0, c1, c2, c3⟩ := h.cs
  have hl := h.mp.look hk
  clear h c0 c1 c2
  go_enter Try.func22, Try.ntmps22
  go_wp2_with fail
  go_ret
  exact ⟨rfl, rfl⟩
theorem state_nil (w : World) (k : ByteArray) : Calls Try.prog 22 #[.pointer none, .string k] w fun e w' => e = .returned (.pointer none) ∧ w' = w := by
  go_enter Try.func22, Try.ntmps22
  go_wp2_with fail
  go_ret
  exact ⟨rfl, rfl⟩
/-- an endpoint's state -/
def Rg.at_ (r : Rg) (k : ByteArray) : Option St := (r.pl k).map r.sf
/-- is it healthy? -/
def Rg.hl (r : Rg) (k : ByteArray) : Bool := (r.at_ k).elim false St.up
theorem Rr.pv {w : World} {base b n : Nat} {r : Rg} (h : Rr w base b n r) (k : ByteArray) : Pv w (ptrO (r.pl k)) (r.pl k) (r.at_ k) := by
  unfold Rg.at_
  rcases e : r.pl k with _ | p
  · exact .nil
  · exact .at_ p (r.sf p) (h.sts k p e).2.1
theorem healthyE_any (w : World) (base b n : Nat) (r : Rg) (h : Rr w base b n r) (k : ByteArray) (hk : okS k) :
    Calls Try.prog 14 #[.pointer (some ⟨b, 0, none⟩), .string k] w fun e w' => e = .returned (.bool (r.hl k)) ∧ w' = w := by
  have h1 := state_any w base b n r h k hk
  have h2 : Calls Try.prog 23 #[ptrO (r.pl k)] w fun e w' => e = .returned (.bool (r.hl k)) ∧ w' = w := healthy_any _ _ _ w (h.pv k)
  generalize r.hl k = x at *
  generalize ptrO (r.pl k) = v at *
  clear h
  go_enter Try.func14, Try.ntmps14
  go_wp2_with (first
    | (go_at_call 22; refine h1.mono ?_; rintro e w' ⟨rfl, rfl⟩)
    | (go_at_call 23; refine h2.mono ?_; rintro e w' ⟨rfl, rfl⟩))
  go_ret
  exact ⟨rfl, rfl⟩
end Go.Proofs.Ytidpglbokpgpbaa
