/-
  What is escaped; texts taken anew.
-/
import Derived.Test.YtjmgngocpokpgaaDoorPa
namespace Go.Proofs.YtjmgngocpokpgaaDoor
open Go.RowKit
set_option linter.unusedVariables false
set_option linter.unusedSimpArgs false
def hexL : List UInt8 := [48, 49, 50, 51, 52, 53, 54, 55, 56, 57, 97, 98, 99, 100, 101, 102]
def hexI (c : UInt8) : Int := Lib.indexByte hexL c
theorem ib_bd : ∀ (l : List UInt8) (c : UInt8), -1 ≤ Lib.indexByte l c ∧ Lib.indexByte l c < l.length
  | [], c => by simp [Lib.indexByte]
  | b :: l, c => by
    have ih := ib_bd l c
    unfold Lib.indexByte
    simp only [List.length_cons]
    split
    · omega
    · split <;> omega
theorem hexI_bd (c : UInt8) : -1 ≤ hexI c ∧ hexI c ≤ 15 := by
  have := ib_bd hexL c
  have h16 : hexL.length = 16 := rfl
  unfold hexI
  omega
theorem clone_any (s : ByteArray) (w : World) (hs : s.size ≤ 281474976710656) : Calls Tryd.prog 46 #[.string s] w fun e w' => e = .returned (.string s) ∧ Below w.heap.size w w' := by
  go_enter Tryd.func46, Tryd.ntmps46
  go_wp2_with (go_at_call 61; refine (Tryd.stringslite_Clone _ _ hs).mono ?_; rintro e w' ⟨rfl, hb⟩)
  go_ret
  exact ⟨rfl, hb⟩
theorem hex_at (c : UInt8) (w : World) : Calls Tryd.prog 50 #[.string ⟨#[48, 49, 50, 51, 52, 53, 54, 55, 56, 57, 97, 98, 99, 100, 101, 102]⟩, .int .u8 (c.toNat : Int)] w fun e w' => e = .returned (.int .i64 (hexI c)) ∧ w' = w := by
  have := Tryd.strings_IndexByte ⟨#[48, 49, 50, 51, 52, 53, 54, 55, 56, 57, 97, 98, 99, 100, 101, 102]⟩ (c.toNat : Int) w
  have e : ((c.toNat : Int).toNat.toUInt8) = c := by simp
  rw [e] at this
  exact this
def hexB (h l : Int) : UInt8 := (16 * h + l).toNat.toUInt8
theorem or_fin : ∀ a b : Fin 16, bits BinOp.or IntKind.i64 ((a.val : Int) * 16) (b.val : Int) % 256 = ((hexB (a.val : Int) (b.val : Int)).toNat : Int) := by decide +kernel
theorem or_hex (a b : Int) (ha : 0 ≤ a) (ha' : a ≤ 15) (hb : 0 ≤ b) (hb' : b ≤ 15) : bits BinOp.or IntKind.i64 (a * 16) b % 256 = ((hexB a b).toNat : Int) := by
  have := or_fin ⟨a.toNat, by omega⟩ ⟨b.toNat, by omega⟩
  have e1 : (a.toNat : Int) = a := by omega
  have e2 : (b.toNat : Int) = b := by omega
  simpa only [e1, e2] using this
theorem ix_lt {l : List UInt8} {k : Nat} {c : UInt8} (h : l[k]? = some c) : k < l.length := (List.getElem?_eq_some_iff.1 h).1
theorem ix_eq {l : List UInt8} {k : Nat} {c : UInt8} (h : l[k]? = some c) : (ByteArray.mk l.toArray)[k]'(ix_lt h) = c := (List.getElem?_eq_some_iff.1 h).2
/-- What the first bytes, a backslash the first, stand for. -/
def escF (l : List UInt8) : Option (UInt8 × Nat) := match l[1]? with
  | none => none
  | some c => if (c.toNat : Int) = 34 ∨ (c.toNat : Int) = 92 then some (c, 2) else if (c.toNat : Int) = 110 then some (10, 2) else if (c.toNat : Int) = 116 then some (9, 2)
    else if (c.toNat : Int) = 120 then (match l[2]?, l[3]? with
      | some h, some m => if 0 ≤ hexI h ∧ 0 ≤ hexI m then some (hexB (hexI h) (hexI m), 4) else none
      | _, _ => none) else none
def escE (o : Option (UInt8 × Nat)) : Ending := match o with
  | none => .returned (.tuple #[.int .u8 0, .int .i64 0])
  | some (c, k) => .returned (.tuple #[.int .u8 (c.toNat : Int), .int .i64 k])
set_option maxHeartbeats 2000000 in
theorem escaped_x (l : List UInt8) (c h m : UInt8) (w : World) (hs : l.length ≤ 2 ^ 40) (i1 : l[1]? = some c) (i2 : l[2]? = some h) (i3 : l[3]? = some m) (hc : (c.toNat : Int) = 120) :
    Calls Tryd.prog 80 #[.string ⟨l.toArray⟩] w fun e w' => e = escE (escF l) ∧ ∃ q, w' = w.drewN q := by
  have b1 := hexI_bd h
  have b2 := hexI_bd m
  have HE : Hid (escF l = if 0 ≤ hexI h ∧ 0 ≤ hexI m then some (hexB (hexI h) (hexI m), 4) else none) := by
    show _ = _
    rw [escF, i1]
    simp only [hc, i2, i3]
    rfl
  have e1 := ix_eq i1
  have e2 := ix_eq i2
  have e3 := ix_eq i3
  have l3 : (3 : Int) < l.length := by have := ix_lt i3; omega
  go_enter Tryd.func80, Tryd.ntmps80
  go_wp2
  go_quiet ((go_at_call 50; exact Calls.quiet_of_same (hex_at _ _)))
  go_wp2
  · have g1 : 0 ≤ hexI h := by assumption
    have g2 : 0 ≤ hexI m := by assumption
    go_ret2
    exact ⟨by rw [HE.out, if_pos ⟨g1, g2⟩, or_hex _ _ g1 b1.2 g2 b2.2]; rfl, nq, rfl⟩
  · have g2 : ¬ 0 ≤ hexI m := by omega
    go_ret2
    exact ⟨by rw [HE.out, if_neg (fun h => g2 h.2)]; rfl, nq, rfl⟩
  · have g1 : ¬ 0 ≤ hexI h := by omega
    go_ret2
    exact ⟨by rw [HE.out, if_neg (fun h => g1 h.1)]; rfl, nq, rfl⟩
theorem len_none {l : List UInt8} {k : Nat} (h : l[k]? = none) : (l.length : Int) ≤ k := by
  have := List.getElem?_eq_none_iff.1 h; omega
set_option maxHeartbeats 2000000 in
theorem escaped_any (l : List UInt8) (w : World) (hs : l.length ≤ 2 ^ 40) :
    Calls Tryd.prog 80 #[.string ⟨l.toArray⟩] w fun e w' => e = escE (escF l) ∧ ∃ q, w' = w.drewN q := by
  rcases i1 : l[1]? with _ | c
  · have HE : Hid (escF l = none) := by show _ = _; rw [escF, i1]
    have hl := len_none i1
    have hl' : (l.length : Int) < 2 := by omega
    go_enter Tryd.func80, Tryd.ntmps80
    go_wp2
    go_ret2
    exact ⟨by rw [HE.out]; rfl, 0, rfl⟩
  · have e1 := ix_eq i1
    have hl : (1 : Int) < l.length := by have := ix_lt i1; omega
    have hl' : ¬ (l.length : Int) < 2 := by omega
    have lo := u8_lo c
    have hi := u8_hi c
    by_cases h1 : (c.toNat : Int) = 34
    · have HE : Hid (escF l = some (c, 2)) := by show _ = _; rw [escF, i1]; simp [h1]
      go_enter Tryd.func80, Tryd.ntmps80
      go_wp2
      go_ret2
      exact ⟨by rw [HE.out]; simp [escE, h1], 0, rfl⟩
    by_cases h2 : (c.toNat : Int) = 92
    · have HE : Hid (escF l = some (c, 2)) := by show _ = _; rw [escF, i1]; simp [h2]
      go_enter Tryd.func80, Tryd.ntmps80
      go_wp2
      go_ret2
      exact ⟨by rw [HE.out]; simp [escE, h2], 0, rfl⟩
    by_cases h3 : (c.toNat : Int) = 110
    · have HE : Hid (escF l = some (10, 2)) := by show _ = _; rw [escF, i1]; simp [h3]
      go_enter Tryd.func80, Tryd.ntmps80
      go_wp2
      go_ret2
      exact ⟨by rw [HE.out]; rfl, 0, rfl⟩
    by_cases h4 : (c.toNat : Int) = 116
    · have HE : Hid (escF l = some (9, 2)) := by show _ = _; rw [escF, i1]; simp [h4]
      go_enter Tryd.func80, Tryd.ntmps80
      go_wp2
      go_ret2
      exact ⟨by rw [HE.out]; rfl, 0, rfl⟩
    by_cases h5 : (c.toNat : Int) = 120
    · rcases i3 : l[3]? with _ | m
      · have HE : Hid (escF l = none) := by
          show _ = _
          rw [escF, i1]
          simp only [h5, i3]
          rcases l[2]? with _ | _ <;> simp
        have hl4 := len_none i3
        have hl5 : (l.length : Int) < 4 := by omega
        go_enter Tryd.func80, Tryd.ntmps80
        go_wp2
        go_ret2
        exact ⟨by rw [HE.out]; rfl, 0, rfl⟩
      · rcases i2 : l[2]? with _ | h
        · have := len_none i2
          have := ix_lt i3
          omega
        · exact escaped_x l c h m w hs i1 i2 i3 h5
    · have HE : Hid (escF l = none) := by show _ = _; rw [escF, i1]; simp [h1, h2, h3, h4, h5]
      go_enter Tryd.func80, Tryd.ntmps80
      go_wp2
      go_ret2
      exact ⟨by rw [HE.out]; rfl, 0, rfl⟩
/-- How many bytes it takes is more than nought. -/
theorem escF_pos {l : List UInt8} {c : UInt8} {k : Nat} (h : escF l = some (c, k)) : 2 ≤ k ∧ k ≤ l.length ∧ k ≤ 4 := by
  unfold escF at h
  rcases i1 : l[1]? with _ | d
  · rw [i1] at h; cases h
  · have := ix_lt i1
    rw [i1] at h
    dsimp only at h
    split at h
    · cases h; omega
    · split at h
      · cases h; omega
      · split at h
        · cases h; omega
        · split at h
          · rcases i3 : l[3]? with _ | m
            · rcases i2 : l[2]? with _ | _ <;> (rw [i2, i3] at h; cases h)
            · have := ix_lt i3
              rcases i2 : l[2]? with _ | _
              · rw [i2, i3] at h; cases h
              · rw [i2, i3] at h
                dsimp only at h
                split at h
                · cases h; omega
                · cases h
          · cases h
end Go.Proofs.YtjmgngocpokpgaaDoor
