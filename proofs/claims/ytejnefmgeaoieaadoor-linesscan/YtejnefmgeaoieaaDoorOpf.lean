/-
  A slice of bytes, opened: its length is within its room.
-/
import Derived.Test.YtejnefmgeaoieaaDoorOpen
namespace Go.Proofs.YtejnefmgeaoieaaDoor
open Go.RowKit
theorem open_fits {H : Type} {enc : TypeId × Value → H} {W : World} {a : Option Addr} {len cap : Nat} {d : DataW H} {p : List MemPlace} {ts : List TypeId} {ds : List (DataW H)} {j : Nat}
    (h : DataW.Trod enc Tryd.prog W 0 (fun _ => true) true 22 (.slice a len cap) d p) (hsz : (DataW.weightsEach Tryd.prog ts ds).all (· ≤ reachBytes) = true) (ht : ts[j]? = some 22) (hd : ds[j]? = some d) : len ≤ cap := by
  obtain ⟨zs, hB, hc⟩ := open_bytes h hsz ht hd
  exact hB.fits
end Go.Proofs.YtejnefmgeaoieaaDoor
