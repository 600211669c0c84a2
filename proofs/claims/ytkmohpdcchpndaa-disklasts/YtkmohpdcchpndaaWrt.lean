/-
  The changes of a file's bytes: what they do.
-/
import Derived.Test.YtkmohpdcchpndaaTurn
import Derived.Laws.CopyRow
import Derived.Laws.IdiomCopy
import Derived.Deep.RegionHeld3
import Derived.Deep.RegionLaw
namespace Go.Proofs.Ytkmohpdcchpndaa
open Go.RowKit
set_option linter.unusedVariables false
set_option linter.unusedSimpArgs false
theorem Try.info5 : (Try.prog.info? 5).map (fun i => (i.zero, i.size, i.bytes)) = some (some (.int .u8 0), 1, 1) := by kernel_rfl
theorem info_parts {P : Program} {t : TypeId} {z : Value} {s b : Nat} (h : (P.info? t).map (fun i => (i.zero, i.size, i.bytes)) = some (some z, s, b)) : ∃ i, P.info? t = some i ∧ i.zero = some z ∧ i.size = s ∧ i.bytes = b := by
  rcases hi : P.info? t with _ | i
  · rw [hi] at h; cases h
  · rw [hi] at h
    simp at h
    exact ⟨i, rfl, h.1, h.2.1, h.2.2⟩
theorem size5 : (Try.prog.info? 5).map (·.size) = some 1 := by kernel_rfl
theorem Buf.take {w : World} {base : Nat} {ao : Option Addr} {n cap : Nat} {b : List Int} (h : Buf w base (.slice ao n cap) b) (k : Nat) (hk : k ≤ n) : Buf w base (.slice ao k cap) (b.take k) := by
  obtain ⟨ho, ⟨e, rfl⟩ | ⟨g, off, cp, cur, e, hb, hg, h1, h2, h3, h4⟩⟩ := h
  · injection e with e1 e2 e3
    subst e1
    subst e2
    subst e3
    obtain rfl : k = 0 := by omega
    exact ⟨by simpa using ho, .inl ⟨rfl, by simp⟩⟩
  · injection e with e1 e2 e3
    subst e1
    subst e2
    subst e3
    have hl : (b.take k).length = k := by simp; omega
    refine ⟨ho.take k, .inr ⟨g, off, cap, cur, by rw [hl], hb, hg, by omega, h2, h3, fun j hj => ?_⟩⟩
    rw [hl] at hj
    rw [h4 j (by omega)]
    simp [List.getD, hj]
/-- b, with what is written at a place -/
def over (b : List Int) (at_ : Nat) (q : List Int) : List Int := b.take at_ ++ q ++ b.drop (at_ + q.length)
theorem over_length (b : List Int) (at_ : Nat) (q : List Int) (h : at_ ≤ b.length) : (over b at_ q).length = max b.length (at_ + q.length) := by
  simp [over]; omega
theorem over_get (b : List Int) (at_ : Nat) (q : List Int) (h : at_ ≤ b.length) (j : Nat) : (over b at_ q).getD j 0 = if at_ ≤ j ∧ j < at_ + q.length then q.getD (j - at_) 0 else b.getD j 0 := by
  simp only [List.getD_eq_getElem?_getD, over]
  by_cases h1 : j < at_
  · rw [if_neg (by omega), List.append_assoc, List.getElem?_append_left (by simp; omega)]
    simp [h1]
  · by_cases h2 : j < at_ + q.length
    · rw [if_pos ⟨by omega, h2⟩, List.append_assoc, List.getElem?_append_right (by simp; omega), List.getElem?_append_left (by simp; omega)]
      simp [Nat.min_eq_left h]
    · rw [if_neg (by omega), List.getElem?_append_right (by simp; omega)]
      simp [Nat.min_eq_left h]
      congr 1
      congr 1
      omega
theorem Octets.over {b q : List Int} {at_ : Nat} (hb : Octets b) (hq : Octets q) (h : at_ ≤ b.length) : Octets (over b at_ q) := fun j => by
  rw [over_get b at_ q h j]
  split
  · exact hq _
  · exact hb _
/-- bytes that lie in one's own row are copied over: the row is the same, they are there -/
theorem Buf.splice {w : World} {base g off cap at_ : Nat} {b q : List Int} {cur : Array Value} (ho : Octets b) (hq : Octets q) (hb : base ≤ g) (hg : w.heap[g]? = some (.cells cur 5 (0, 0))) (h1 : b.length ≤ cap) (h2 : cap ≤ maxLen) (h3 : off + cap ≤ cur.size) (h4 : ∀ j, j < b.length → w.cell? ⟨g, off + j, none⟩ = some (.int .u8 (b.getD j 0))) (hfit : at_ + q.length ≤ b.length) :
    Buf (w.setRow g (cur.toList.take (off + at_) ++ vals q ++ cur.toList.drop (off + at_ + (vals q).length)).toArray) base (.slice (some ⟨g, off, none⟩) b.length cap) (over b at_ q) := by
  have hl : (over b at_ q).length = b.length := by rw [over_length _ _ _ (by omega)]; omega
  have hrow := setRow_heap w g cur (cur.toList.take (off + at_) ++ vals q ++ cur.toList.drop (off + at_ + (vals q).length)).toArray 5 (0, 0) hg
  refine ⟨ho.over hq (by omega), .inr ⟨g, off, cap, _, by rw [hl], hb, hrow, by omega, h2, by simp [vals_length]; omega, fun j hj => ?_⟩⟩
  rw [hl] at hj
  rw [cell_block hrow, over_get b at_ q (by omega) j]
  have hc := h4 j hj
  rw [cell_block hg] at hc
  have hs : off + j < cur.size := by omega
  simp only [List.getElem?_toArray]
  by_cases e1 : j < at_
  · rw [if_neg (by omega), List.append_assoc, List.getElem?_append_left (by simp; omega)]
    rw [List.getElem?_take, if_pos (by omega)]
    simpa using hc
  · by_cases e2 : j < at_ + q.length
    · rw [if_pos ⟨by omega, e2⟩, List.append_assoc, List.getElem?_append_right (by simp; omega), List.getElem?_append_left (by simp [vals_length]; omega)]
      simp only [List.length_take, Array.length_toList]
      rw [Nat.min_eq_left (by omega), show off + j - (off + at_) = j - at_ by omega, vals_get q _ (by omega)]
    · rw [if_neg (by omega), List.getElem?_append_right (by simp [vals_length]; omega)]
      simp only [List.length_append, List.length_take, Array.length_toList, vals_length, List.getElem?_drop]
      rw [Nat.min_eq_left (by omega), show off + at_ + q.length + (off + j - (off + at_ + q.length)) = off + j by omega]
      simpa using hc
end Go.Proofs.Ytkmohpdcchpndaa
