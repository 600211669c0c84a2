/-
  The document's own: paths and methods asked; what a text ends and begins with.
-/
import Derived.Test.YtfhobglcploaoaaDoorKPc
namespace Go.Proofs.YtfhobglcploaoaaDoor.Kk
open Go.RowKit
set_option linter.unusedVariables false
set_option linter.unusedSimpArgs false
set_option maxRecDepth 100000
set_option maxHeartbeats 4000000 in
theorem rpath_any (l : List UInt8) (w : World) (hs : l.length ≤ 2 ^ 62) : Calls Tryd.prog 42 #[.string ⟨l.toArray⟩] w fun e w' => e = .returned (.bool (pathB l)) ∧ w' = w := by
  go_enter Tryd.func42, Tryd.ntmps42
  go_wp2
  go_loop [3] (fun i => ∃ k : Nat, k ≤ l.length ∧ i = .int .i64 k ∧ ∀ j (hj : j < k) (hk : j < l.length), patF (l[j].toNat : Int) = true) (fun i => l.length - (intOf i).toNat)
  case atStart => exact ⟨0, Nat.zero_le _, rfl, fun j hj => by omega⟩
  case round =>
    obtain ⟨k, hk, rfl, hall⟩ := hrel
    have HA := hide2 hall
    clear hall
    have k0 : (0 : Int) ≤ k := by omega
    by_cases hlt : k < l.length
    · have hlt' : (k : Int) < l.length := by omega
      cases hp : patF ((ByteArray.mk l.toArray)[k].toNat : Int) with
      | true =>
        have HP := hide2 hp
        simp only [patF, decide_eq_true_eq] at hp
        have b1 : ¬ ((ByteArray.mk l.toArray)[k].toNat : Int) < 33 := by omega
        have b2 : ¬ 126 < ((ByteArray.mk l.toArray)[k].toNat : Int) := by omega
        clear hp
        go_wp2
        go_round
        case rel =>
          refine ⟨k + 1, by omega, by go_num, fun j hj hk => ?_⟩
          rcases Nat.lt_succ_iff_lt_or_eq.1 hj with h | rfl
          · exact HA.out j h hk
          · exact HP.out
        case measure => simp [intOf]; omega
      | false =>
        have HM : Hid (pathB l = false) := by simp [Hid, pathB, madF_false hlt hp]
        simp only [patF, decide_eq_false_iff_not] at hp
        by_cases b1 : ((ByteArray.mk l.toArray)[k].toNat : Int) < 33
        · clear hp
          go_wp2
          go_ret
          exact ⟨ret_bool HM.out.symm, rfl⟩
        · have b2 : 126 < ((ByteArray.mk l.toArray)[k].toNat : Int) := by omega
          clear hp
          go_wp2
          go_ret
          exact ⟨ret_bool HM.out.symm, rfl⟩
    · have hlt' : ¬ (k : Int) < l.length := by omega
      have HM : Hid (madF patF l = !l.isEmpty) := madF_true fun j hj => HA.out j (by omega) hj
      clear HA
      rcases l with _ | ⟨c, l⟩
      · go_wp2
        go_ret
        exact ⟨rfl, rfl⟩
      · by_cases h64 : (c :: l).length ≤ 256
        · have h2 : (l.length : Int) + 1 ≤ 256 := by simp only [List.length_cons] at h64; omega
          have h3 : (1 : Int) ≤ (l.length : Int) + 1 := by omega
          have HM2 : Hid (pathB (c :: l) = ((c.toNat : Int) == 47)) := by
            have : (c == 47) = ((c.toNat : Int) == 47) := by rw [Bool.eq_iff_iff]; simp [← UInt8.toNat_inj]; omega
            simp only [Hid, pathB, HM.out, h64]
            rw [← this]; simp
          clear h64
          go_wp2
          go_ret
          exact ⟨ret_bool (by rw [HM2.out]; rfl), rfl⟩
        · have h2 : ¬ (l.length : Int) + 1 ≤ 256 := by simp only [List.length_cons] at h64; omega
          have h3 : (1 : Int) ≤ (l.length : Int) + 1 := by omega
          have HM2 : Hid (pathB (c :: l) = false) := by simp only [Hid, pathB, HM.out, h64]; rfl
          clear h64
          go_wp2
          go_ret
          exact ⟨ret_bool HM2.out.symm, rfl⟩
theorem extract_drop (l : List UInt8) (k : Nat) : (ByteArray.mk l.toArray).extract k l.length = ⟨(l.drop k).toArray⟩ := by
  apply ByteArray.ext
  simp [ByteArray.data_extract]
  exact List.take_of_length_le (by simp)
theorem extract_take (l : List UInt8) (k : Nat) : (ByteArray.mk l.toArray).extract 0 k = ⟨(l.take k).toArray⟩ := by
  apply ByteArray.ext
  simp [ByteArray.data_extract]
theorem toList_mk (l : List UInt8) : (ByteArray.mk l.toArray).toList = l := by
  rw [ByteArray.toList_eq]
theorem suf_iff (l t : List UInt8) : Lib.hasSuffix l t = true ↔ t <:+ l := by simp [Lib.hasSuffix]
theorem pre_iff (l t : List UInt8) : Lib.hasPrefix l t = true ↔ t <+: l := by simp [Lib.hasPrefix]
theorem suf_eq (l t : List UInt8) : (l.drop (l.length - t.length) == t) = Lib.hasSuffix l t := by
  rw [Bool.eq_iff_iff, suf_iff, beq_iff_eq]
  rw [List.suffix_iff_eq_drop]
  exact eq_comm
theorem pre_eq (l t : List UInt8) : (l.take t.length == t) = Lib.hasPrefix l t := by
  rw [Bool.eq_iff_iff, pre_iff, beq_iff_eq]
  rw [List.prefix_iff_eq_take]
  exact eq_comm
theorem ends_any (l t : List UInt8) (w : World) (hs : l.length ≤ 2 ^ 62) (ht : t.length ≤ 2 ^ 62) : Calls Tryd.prog 39 #[.string ⟨l.toArray⟩, .string ⟨t.toArray⟩] w fun e w' => e = .returned (.bool (Lib.hasSuffix l t)) ∧ w' = w := by
  by_cases h : t.length ≤ l.length
  · have h1 : (t.length : Int) ≤ l.length := by omega
    go_enter Tryd.func39, Tryd.ntmps39
    go_wp2
    go_ret
    exact ⟨ret_bool (by rw [extract_drop, toList_mk, suf_eq]), rfl⟩
  · have h1 : ¬ (t.length : Int) ≤ l.length := by omega
    have HE : Hid (Lib.hasSuffix l t = false) := by
      show _ = _
      rw [← Bool.not_eq_true, suf_iff]
      exact fun hh => h hh.length_le
    go_enter Tryd.func39, Tryd.ntmps39
    go_wp2
    go_ret
    exact ⟨ret_bool HE.out.symm, rfl⟩
theorem begins_any (l t : List UInt8) (w : World) (hs : l.length ≤ 2 ^ 62) (ht : t.length ≤ 2 ^ 62) : Calls Tryd.prog 43 #[.string ⟨l.toArray⟩, .string ⟨t.toArray⟩] w fun e w' => e = .returned (.bool (Lib.hasPrefix l t)) ∧ w' = w := by
  by_cases h : t.length ≤ l.length
  · have h1 : (t.length : Int) ≤ l.length := by omega
    go_enter Tryd.func43, Tryd.ntmps43
    go_wp2
    go_ret
    exact ⟨ret_bool (by rw [extract_take, toList_mk, pre_eq]), rfl⟩
  · have h1 : ¬ (t.length : Int) ≤ l.length := by omega
    have HE : Hid (Lib.hasPrefix l t = false) := by
      show _ = _
      rw [← Bool.not_eq_true, pre_iff]
      exact fun hh => h hh.length_le
    go_enter Tryd.func43, Tryd.ntmps43
    go_wp2
    go_ret
    exact ⟨ret_bool HE.out.symm, rfl⟩
/-- what stands ahead of a star at the end -/
def starT (l : List UInt8) : List UInt8 := Lib.trimSuffix l [42]
def starB (l : List UInt8) : Bool := Lib.hasSuffix l [42]
theorem starT_no {l : List UInt8} (h : starB l = false) : starT l = l := by
  unfold starB at h
  rw [starT, Lib.trimSuffix, h]; rfl
theorem starT_yes {l : List UInt8} (h : starB l = true) : starT l = l.take (l.length - 1) := by
  unfold starB at h
  rw [starT, Lib.trimSuffix, h]; rfl
theorem starB_pos {l : List UInt8} (h : starB l = true) : 1 ≤ l.length := by
  rw [starB, suf_iff] at h
  exact h.length_le
theorem star_any (l : List UInt8) (w : World) (hs : l.length ≤ 2 ^ 62) : Calls Tryd.prog 40 #[.string ⟨l.toArray⟩] w fun e w' => e = .returned (.tuple #[.string ⟨(starT l).toArray⟩, .bool (starB l)]) ∧ w' = w := by
  have hE := ends_any l [42] w hs (by simp)
  rw [show Lib.hasSuffix l [42] = starB l from rfl] at hE
  cases h : starB l with
  | true =>
    rw [h] at hE
    have h1 : (1 : Int) ≤ l.length := by have := starB_pos h; omega
    have HT := hide2 (starT_yes h)
    have HB := hide2 h
    clear h
    go_enter Tryd.func40, Tryd.ntmps40
    go_wp2_with (go_at_call 39; refine hE.mono ?_; rintro e w' ⟨rfl, rfl⟩)
    go_ret2
    exact ⟨by rw [extract_take, HT.out]; rfl, rfl⟩
  | false =>
    rw [h] at hE
    have HT := hide2 (starT_no h)
    clear h
    go_enter Tryd.func40, Tryd.ntmps40
    go_wp2_with (go_at_call 39; refine hE.mono ?_; rintro e w' ⟨rfl, rfl⟩)
    go_ret2
    exact ⟨by rw [HT.out]; rfl, rfl⟩
end Go.Proofs.YtfhobglcploaoaaDoor.Kk
