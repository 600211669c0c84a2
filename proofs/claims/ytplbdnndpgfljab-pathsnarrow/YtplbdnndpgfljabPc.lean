/-
  The document's own: a host folded, paths and methods asked.
-/
import Derived.Test.YtplbdnndpgfljabPb
namespace Go.Proofs.Ytplbdnndpgfljab
open Go.RowKit
set_option linter.unusedVariables false
set_option linter.unusedSimpArgs false
set_option maxRecDepth 100000
def fdF (l : List UInt8) : List UInt8 := if hostB l then fldF l else []
theorem fold_any (l : List UInt8) (w : World) (hs : l.length ≤ 2 ^ 62) : Calls Try.prog 11 #[.string ⟨l.toArray⟩] w fun e w' => e = .returned (.tuple #[.string ⟨(fdF l).toArray⟩, .bool (hostB l)]) ∧ Below w.heap.size w w' := by
  cases h : hostB l with
  | true =>
    refine (fold_ok l w hs h).mono ?_
    rintro e w' ⟨rfl, hb⟩
    exact ⟨by rw [fdF, if_pos h], hb⟩
  | false =>
    refine (fold_no l w hs h).mono ?_
    rintro e w' ⟨rfl, rfl⟩
    exact ⟨by rw [fdF, if_neg (by simp [h])], Below.refl _ _⟩
theorem own_nil (w : World) (base : Nat) (e : TypeId) (size : Nat) : w.ownsRow base e size (.slice none 0 0) 0 [] := ⟨by simp, .inl ⟨rfl, rfl⟩⟩
theorem own_form {w : World} {base : Nat} {e : TypeId} {size : Nat} {v : Value} {n : Nat} {xs : List Value} (h : w.ownsRow base e size v n xs) : ∃ a cp, v = .slice a n cp ∧ (a = none → cp = 0) ∧ n ≤ cp ∧ cp ≤ maxLen := by
  rcases h.2 with ⟨rfl, h0⟩ | ⟨g, cp, cur, rfl, _, _, hc, hm, _⟩
  · subst h0; exact ⟨none, 0, rfl, fun _ => rfl, Nat.le_refl _, by decide⟩
  · exact ⟨_, cp, rfl, (fun h => by cases h), hc, hm⟩
theorem app_one {w wr w3 : World} {base k g3 c3 : Nat} {v : Value} {o : Obj} {acc : List UInt8} {c : UInt8} {z : Int} (hz : (c.toNat : Int) = z) (HO : wr.ownsRow base 5 1 v k (vals (zL acc))) (HB : Below base w wr) (hb : base ≤ w.heap.size)
    (hown : w3.ownsRow base 5 1 (.slice (some ⟨g3, 0, none⟩) (k + 1) c3) (k + 1) (vals (zL acc) ++ vals [z])) (hg : (wr.alloc o).grownBy w3 v.ownBlock) :
    Hid (w3.ownsRow base 5 1 (.slice (some ⟨g3, 0, none⟩) (k + 1) c3) (k + 1) (vals (zL (acc ++ [c])))) ∧ Hid (Below base w w3) := by
  refine ⟨?_, ?_⟩
  · show w3.ownsRow _ _ _ _ _ _
    rw [zL_append, vals_append]
    have : zL [c] = [z] := by simp [zL, hz]
    rw [this]; exact hown
  · have hs : base ≤ wr.heap.size := Nat.le_trans hb HB.size
    exact (HB.alloc hs _).grown hg (by simp; omega) (fun k h => by
      have := (HO.lt k h).1
      omega)
theorem str_own (w : World) (base n : Nat) (v : Value) (l : List UInt8) (hn : l.length = n) (h0 : 0 < n) (hB : w.ownsRow base 5 1 v n (vals (zL l))) : (convert 39 9 v).run Try.prog w = .ok (.string ⟨l.toArray⟩) w := by
  rcases hB.2 with ⟨rfl, h1⟩ | ⟨g, cap, cur, rfl, _, hgg, _⟩
  · omega
  · exact str_has w g n cap l hn (own_has hB)
theorem fldF_snoc (l : List UInt8) (k : Nat) (h : k < l.length) : fldF (l.take (k + 1)) = fldF (l.take k) ++ [smlF l[k]] := by
  rw [take_one l k h, fldF, fldF, List.map_append]; rfl
theorem hos_snoc {l : List UInt8} {k : Nat} (hlt : k < l.length) (HI : ∀ i (h : i < l.length), i < k → hosF (l[i].toNat : Int) = true) (HH : hosF (l[k].toNat : Int) = true) : ∀ i (h : i < l.length), i < k + 1 → hosF (l[i].toNat : Int) = true := fun i h h2 => by
  rcases Nat.lt_succ_iff_lt_or_eq.1 h2 with h3 | rfl
  · exact HI i h h3
  · exact HH
end Go.Proofs.Ytplbdnndpgfljab
