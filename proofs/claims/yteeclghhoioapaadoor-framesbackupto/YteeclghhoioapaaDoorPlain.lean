/-
  Plain facts on records and their frames, and on bytes read as a string.
-/
import Derived.Test.YteeclghhoioapaaDoorNext
import Derived.Laws.IdiomStrings
namespace Go.Proofs.YteeclghhoioapaaDoor
set_option maxRecDepth 4000
open Go.RowKit
set_option linter.unusedVariables false

theorem IsRec.same {zs : List Int} {N M : Nat} (h : IsRec zs N) (k : IsRec zs M) : N = M := by
  have := h.2.1; have := k.2.1; omega

theorem four_octets (n : Int) (h0 : 0 ≤ n) (h1 : n < 4294967296) : Octets (four n) := fun
  | 0 => by simp [four]; omega
  | 1 => by simp [four]; omega
  | 2 => by simp [four]; omega
  | 3 => by simp [four]; omega
  | i + 4 => by simp [four]
theorem Octets.append {a b : List Int} (ha : Octets a) (hb : Octets b) : Octets (a ++ b) := fun i => by
  by_cases h : i < a.length
  · have := ha i; simpa [List.getD, List.getElem?_append_left h] using this
  · have := hb (i - a.length); simpa [List.getD, List.getElem?_append_right (Nat.le_of_not_lt h)] using this
theorem Octets.take {a : List Int} (ha : Octets a) (k : Nat) : Octets (a.take k) := fun i => by
  by_cases hi : i < k
  · have := ha i
    rwa [show (a.take k).getD i 0 = a.getD i 0 by simp [List.getD, hi]]
  · rw [show (a.take k).getD i 0 = 0 by simp [List.getD, List.getElem?_take, hi]]; omega
theorem Octets.drop {a : List Int} (ha : Octets a) (k : Nat) : Octets (a.drop k) := fun i => by
  have := ha (k + i); simpa [List.getD] using this
theorem frame_length (zs : List Int) : (frame zs).length = 8 + zs.length := by simp [frame, four]; omega
theorem frame_octets (zs : List Int) (hz : Octets zs) (hl : zs.length ≤ 131072) : Octets (frame zs) := by
  have b := sumOf_bd zs hz (by omega)
  exact (four_octets _ (by omega) (by omega)).append ((four_octets _ b.1 b.2).append hz)

/-- A frame is read, whatever stands behind it. -/
theorem isRec_frame (zs tail : List Int) (hl : zs.length ≤ 131072) : IsRec (frame zs ++ tail) zs.length ∧ ((frame zs ++ tail).drop 8).take zs.length = zs := by
  have hd : (frame zs ++ tail).drop 8 = zs ++ tail := by simp [frame, four]
  have ht : ((frame zs ++ tail).drop 8).take zs.length = zs := by rw [hd]; simp
  refine ⟨⟨by simp [frame_length]; omega, ?_⟩, ht⟩
  refine ⟨?_, hl, by rw [hd]; simp, ?_⟩
  · simp [frame, four]; omega
  · rw [ht]; simp [frame, four, sumOf, List.getD]

/-- The bytes as a string. -/
def bstr (zs : List Int) : ByteArray := zs.foldl (fun r n => r.push (UInt8.ofNat n.toNat)) ByteArray.empty
theorem bstr_data (zs : List Int) : (bstr zs).data.toList = zs.map (fun n => UInt8.ofNat n.toNat) := by
  have : ∀ (l : List Int) (s : ByteArray), (l.foldl (fun r n => r.push (UInt8.ofNat n.toNat)) s).data.toList = s.data.toList ++ l.map (fun n => UInt8.ofNat n.toNat) := by
    intro l
    induction l with
    | nil => intro s; simp
    | cons a l ih => intro s; simp only [List.foldl_cons]; rw [ih]; simp [ByteArray.push]
  have := this zs ByteArray.empty
  simpa [bstr] using this
theorem bstr_inj (a b : List Int) (ha : Octets a) (hb : Octets b) (h : bstr a = bstr b) : a = b := by
  have hd : a.map (fun n => UInt8.ofNat n.toNat) = b.map (fun n => UInt8.ofNat n.toNat) := by rw [← bstr_data, ← bstr_data, h]
  have hl : a.length = b.length := by have := congrArg List.length hd; simpa using this
  apply List.ext_getElem hl
  intro i h1 h2
  have e : UInt8.ofNat (a[i]).toNat = UInt8.ofNat (b[i]).toNat := by
    have := congrArg (·[i]?) hd
    simpa [h1, h2] using this
  have xa := ha i; have xb := hb i
  simp [h1] at xa; simp [h2] at xb
  have e' := congrArg UInt8.toNat e
  simp at e'
  omega

theorem str_of (w : World) (a : Option Addr) (n cap : Nat) (zs : List Int) (hn : zs.length = n) (hB : Has w a zs) : (convert 24 9 (.slice a n cap)).run Tryd.prog w = .ok (.string (bstr zs)) w := by
  rw [run_convert_bytes_string w 24 9 5 a n cap Tryd.underlying24 Tryd.underlying5 Tryd.underlying9]
  subst hn
  rcases hB with ⟨rfl, rfl⟩ | ⟨x, rfl, hB⟩
  · simp [Conv.bytesToString, bstr]
  · have hl := run_loadCells_list (P := Tryd.prog) w x (zs.map (Value.int .u8)) (fun j v hj => by
      obtain ⟨hj', rfl⟩ := vals_at zs j v hj
      exact hB j hj')
    simp only [List.length_map] at hl
    exact run_bytesToString w x zs.length cap zs hl
end Go.Proofs.YteeclghhoioapaaDoor
