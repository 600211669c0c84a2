/-
  Plain scalars; what begins a document.
-/
import Derived.Test.YtjmgngocpokpgaaDoorKey
namespace Go.Proofs.YtjmgngocpokpgaaDoor
open Go.RowKit
set_option linter.unusedVariables false
set_option linter.unusedSimpArgs false
def nopL : List UInt8 := [32, 34, 39, 35, 44, 91, 93, 123, 125, 38, 42, 33, 124, 62, 37, 64, 63, 58, 96]
def cutF (l : List UInt8) : List UInt8 := Lib.trimRightB (Lib.cut l [32, 35]).1 32
def plnG (s : List UInt8) : List UInt8 := match s with
  | [] => []
  | c :: r => if (c :: r == [45, 45, 45]) = true then [] else if itmF (c :: r) = true then [] else if 0 ≤ Lib.indexByte nopL c then [] else if Lib.contains (c :: r) [58, 32] = true then [] else if Lib.hasSuffix (c :: r) [58] = true then [] else c :: r
def plnF (l : List UInt8) : List UInt8 := plnG (cutF l)
theorem cut_le (l : List UInt8) : (Lib.cut l [32, 35]).1.length ≤ l.length := by
  unfold Lib.cut
  split
  · simp; omega
  · simp
theorem trimR_le (l : List UInt8) : (Lib.trimRightB l 32).length ≤ l.length := by
  unfold Lib.trimRightB
  have := (List.dropWhile_sublist (l := l.reverse) (· == 32)).length_le
  simpa using this
theorem cutF_le (l : List UInt8) : (cutF l).length ≤ l.length := Nat.le_trans (trimR_le _) (cut_le l)
theorem plnF_le (l : List UInt8) : (plnF l).length ≤ l.length := by
  have := cutF_le l
  unfold plnF plnG
  split
  · simp
  · rename_i c r h
    rw [h] at this
    repeat' split
    all_goals first | exact this | simp
theorem nop_at (c : UInt8) (w : World) : Calls Tryd.prog 50 #[.string ⟨#[32, 34, 39, 35, 44, 91, 93, 123, 125, 38, 42, 33, 124, 62, 37, 64, 63, 58, 96]⟩, .int .u8 (c.toNat : Int)] w fun e w' => e = .returned (.int .i64 (Lib.indexByte nopL c)) ∧ w' = w := by
  have := Tryd.strings_IndexByte ⟨#[32, 34, 39, 35, 44, 91, 93, 123, 125, 38, 42, 33, 124, 62, 37, 64, 63, 58, 96]⟩ (c.toNat : Int) w
  have e : ((c.toNat : Int).toNat.toUInt8) = c := by simp
  rw [e] at this
  exact this
theorem cut_call (l : List UInt8) (m : Int) (w : World) (hs : l.length ≤ 2 ^ 30) (hm : w.cell? ⟨0, 0, none⟩ = some (.int .i64 m)) (a b : List UInt8) (f : Bool) (h : Lib.cut l [32, 35] = (a, b, f)) :
    Calls Tryd.prog 28 #[.string ⟨l.toArray⟩, .string ⟨#[32, 35]⟩] w fun e w' => e = .returned (.tuple #[.string ⟨a.toArray⟩, .string ⟨b.toArray⟩, .bool f]) ∧ ∃ q, w' = w.drewN q := by
  have := Tryd.strings_Cut ⟨l.toArray⟩ ⟨#[32, 35]⟩ m w (show l.length < _ by omega) hm
  have e : Lib.cut (ByteArray.mk l.toArray).data.toList (ByteArray.mk #[32, 35]).data.toList = (a, b, f) := h
  rw [e] at this
  exact this
theorem trim_call (l s : List UInt8) (w : World) (hs : l.length ≤ 2 ^ 40) (h : Lib.trimRightB l 32 = s) :
    Calls Tryd.prog 49 #[.string ⟨l.toArray⟩, .string ⟨#[32]⟩] w fun e w' => e = .returned (.string ⟨s.toArray⟩) ∧ w' = w := by
  have := Tryd.strings_TrimRight_one ⟨l.toArray⟩ 32 (by decide) w (show l.length ≤ _ by omega)
  subst h
  exact this
theorem has_call (l : List UInt8) (m : Int) (w : World) (hs : l.length ≤ 2 ^ 30) (hm : w.cell? ⟨0, 0, none⟩ = some (.int .i64 m)) (b : Bool) (h : Lib.contains l [58, 32] = b) :
    Calls Tryd.prog 51 #[.string ⟨l.toArray⟩, .string ⟨#[58, 32]⟩] w fun e w' => e = .returned (.bool b) ∧ w' = w := by
  have := Tryd.strings_Contains ⟨l.toArray⟩ ⟨#[58, 32]⟩ m w (show l.length < _ by omega) hm
  subst h
  exact this
theorem suf_call (l : List UInt8) (w : World) (hs : l.length ≤ 2 ^ 30) (b : Bool) (h : Lib.hasSuffix l [58] = b) :
    Calls Tryd.prog 52 #[.string ⟨l.toArray⟩, .string ⟨#[58]⟩] w fun e w' => e = .returned (.bool b) ∧ w' = w := by
  have := Tryd.strings_HasSuffix ⟨l.toArray⟩ ⟨#[58]⟩ w (show l.length ≤ _ by omega)
  subst h
  exact this
theorem item_call (l : List UInt8) (w : World) (hs : l.length ≤ 2 ^ 30) (b : Bool) (h : itmF l = b) :
    Calls Tryd.prog 42 #[.string ⟨l.toArray⟩] w fun e w' => e = .returned (.bool b) ∧ w' = w := by
  have := isItem_any l w (by omega)
  subst h
  exact this
set_option maxRecDepth 100000 in
set_option maxHeartbeats 4000000 in
theorem plain_any (l : List UInt8) (m : Int) (w : World) (hs : l.length ≤ 2 ^ 30) (hm : w.cell? ⟨0, 0, none⟩ = some (.int .i64 m)) :
    Calls Tryd.prog 31 #[.string ⟨l.toArray⟩] w fun e w' => e = .returned (.string ⟨(plnF l).toArray⟩) ∧ ∃ q, w' = w.drewN q := by
  obtain ⟨a, b, f, hcut⟩ : ∃ a b f, Lib.cut l [32, 35] = (a, b, f) := ⟨_, _, _, rfl⟩
  have hal : a.length ≤ l.length := by have := cut_le l; rw [hcut] at this; exact this
  obtain ⟨s, htr⟩ : ∃ s, Lib.trimRightB a 32 = s := ⟨_, rfl⟩
  have hsl : s.length ≤ a.length := by rw [← htr]; exact trimR_le a
  have HP : Hid (plnF l = plnG s) := by
    show _ = _
    rw [plnF, cutF, hcut]
    dsimp only
    rw [htr]
  have c28 := cut_call l m w hs hm a b f hcut
  have c49 := fun W => trim_call a s W (by omega) htr
  clear hcut htr
  have hm' : ∀ q, (w.drewN q).cell? ⟨0, 0, none⟩ = some (.int .i64 m) := fun q => by simpa using hm
  cases s with
  | nil =>
    unfold plnG at HP
    dsimp only at HP
    go_enter Tryd.func31, Tryd.ntmps31
    go_wp2_with (first | (go_at_call 28; refine c28.mono ?_; rintro e w' ⟨rfl, q, rfl⟩) | (go_at_call 49; refine (c49 _).mono ?_; rintro e w' ⟨rfl, rfl⟩))
    go_ret
    exact ⟨by rw [HP.out]; rfl, q, rfl⟩
  | cons c r =>
    unfold plnG at HP
    dsimp only at HP
    have lo := u8_lo c
    have hi := u8_hi c
    obtain ⟨s, hse⟩ : ∃ s, c :: r = s := ⟨_, rfl⟩
    have i0 : s[0]? = some c := by rw [← hse]; rfl
    have hne : ¬ s = [] := by rw [← hse]; simp
    rw [hse] at hsl HP
    simp only [hse] at c49
    clear hse
    have e0 := ix_eq i0
    have l0 : (0 : Int) < s.length := by have := ix_lt i0; omega
    have hne' : s.isEmpty = false := by cases s with | nil => exact absurd rfl hne | cons => rfl
    have c42 := fun W => item_call s W (by omega)
    rcases h1 : (s == [45, 45, 45]) with _ | _
    · rw [h1, if_neg (by simp)] at HP
      have h1' : ¬ s = [45, 45, 45] := by simpa using h1
      rcases h2 : itmF s with _ | _
      · rw [h2, if_neg (by simp)] at HP
        have c42 := fun W => c42 W false h2
        obtain ⟨ib, hib⟩ : ∃ ib, Lib.indexByte nopL c = ib := ⟨_, rfl⟩
        have c50 := fun W => nop_at c W
        simp only [hib] at c50
        rw [hib] at HP
        clear hib
        by_cases h3 : 0 ≤ ib
        · rw [if_pos h3] at HP
          go_enter Tryd.func31, Tryd.ntmps31
          go_wp2_with (first | (go_at_call 28; refine c28.mono ?_; rintro e w' ⟨rfl, q, rfl⟩) | (go_at_call 49; refine (c49 _).mono ?_; rintro e w' ⟨rfl, rfl⟩) | (go_at_call 42; refine (c42 _).mono ?_; rintro e w' ⟨rfl, rfl⟩) | (go_at_call 50; refine (c50 _).mono ?_; rintro e w' ⟨rfl, rfl⟩))
          go_ret
          exact ⟨by rw [HP.out]; rfl, q, rfl⟩
        · rw [if_neg h3] at HP
          rcases h4 : Lib.contains s [58, 32] with _ | _
          · rw [h4, if_neg (by simp)] at HP
            have c51 := fun q => has_call s m (w.drewN q) (by omega) (hm' q) false h4
            rcases h5 : Lib.hasSuffix s [58] with _ | _
            · rw [h5, if_neg (by simp)] at HP
              have c52 := fun W => suf_call s W (by omega) false h5
              go_enter Tryd.func31, Tryd.ntmps31
              go_wp2_with (first | (go_at_call 28; refine c28.mono ?_; rintro e w' ⟨rfl, q, rfl⟩) | (go_at_call 49; refine (c49 _).mono ?_; rintro e w' ⟨rfl, rfl⟩) | (go_at_call 42; refine (c42 _).mono ?_; rintro e w' ⟨rfl, rfl⟩) | (go_at_call 50; refine (c50 _).mono ?_; rintro e w' ⟨rfl, rfl⟩) | (go_at_call 51; refine (c51 _).mono ?_; rintro e w' ⟨rfl, rfl⟩) | (go_at_call 52; refine (c52 _).mono ?_; rintro e w' ⟨rfl, rfl⟩))
              go_ret
              exact ⟨by rw [HP.out]; rfl, q, rfl⟩
            · rw [h5, if_pos rfl] at HP
              have c52 := fun W => suf_call s W (by omega) true h5
              go_enter Tryd.func31, Tryd.ntmps31
              go_wp2_with (first | (go_at_call 28; refine c28.mono ?_; rintro e w' ⟨rfl, q, rfl⟩) | (go_at_call 49; refine (c49 _).mono ?_; rintro e w' ⟨rfl, rfl⟩) | (go_at_call 42; refine (c42 _).mono ?_; rintro e w' ⟨rfl, rfl⟩) | (go_at_call 50; refine (c50 _).mono ?_; rintro e w' ⟨rfl, rfl⟩) | (go_at_call 51; refine (c51 _).mono ?_; rintro e w' ⟨rfl, rfl⟩) | (go_at_call 52; refine (c52 _).mono ?_; rintro e w' ⟨rfl, rfl⟩))
              go_ret
              exact ⟨by rw [HP.out]; rfl, q, rfl⟩
          · rw [h4, if_pos rfl] at HP
            have c51 := fun q => has_call s m (w.drewN q) (by omega) (hm' q) true h4
            go_enter Tryd.func31, Tryd.ntmps31
            go_wp2_with (first | (go_at_call 28; refine c28.mono ?_; rintro e w' ⟨rfl, q, rfl⟩) | (go_at_call 49; refine (c49 _).mono ?_; rintro e w' ⟨rfl, rfl⟩) | (go_at_call 42; refine (c42 _).mono ?_; rintro e w' ⟨rfl, rfl⟩) | (go_at_call 50; refine (c50 _).mono ?_; rintro e w' ⟨rfl, rfl⟩) | (go_at_call 51; refine (c51 _).mono ?_; rintro e w' ⟨rfl, rfl⟩))
            go_ret
            exact ⟨by rw [HP.out]; rfl, q, rfl⟩
      · rw [h2, if_pos rfl] at HP
        have c42 := fun W => c42 W true h2
        go_enter Tryd.func31, Tryd.ntmps31
        go_wp2_with (first | (go_at_call 28; refine c28.mono ?_; rintro e w' ⟨rfl, q, rfl⟩) | (go_at_call 49; refine (c49 _).mono ?_; rintro e w' ⟨rfl, rfl⟩) | (go_at_call 42; refine (c42 _).mono ?_; rintro e w' ⟨rfl, rfl⟩))
        go_ret
        exact ⟨by rw [HP.out]; rfl, q, rfl⟩
    · rw [h1, if_pos rfl] at HP
      have h1' : s = [45, 45, 45] := by simpa using h1
      go_enter Tryd.func31, Tryd.ntmps31
      go_wp2_with (first | (go_at_call 28; refine c28.mono ?_; rintro e w' ⟨rfl, q, rfl⟩) | (go_at_call 49; refine (c49 _).mono ?_; rintro e w' ⟨rfl, rfl⟩))
      go_ret
      exact ⟨by rw [HP.out]; rfl, q, rfl⟩
def docF (l : List UInt8) : Bool := Lib.hasPrefix l [45, 45, 45] && nulF (l.drop 3)
theorem doc_any (l : List UInt8) (w : World) (hs : l.length ≤ 2 ^ 30) :
    Calls Tryd.prog 38 #[.string ⟨l.toArray⟩] w fun e w' => e = .returned (.bool (docF l)) ∧ w' = w := by
  have c57 := fun W => Tryd.strings_CutPrefix ⟨l.toArray⟩ ⟨#[45, 45, 45]⟩ W
  rcases hp : Lib.hasPrefix l [45, 45, 45] with _ | _
  · have e1 : Lib.trimPrefix (ByteArray.mk l.toArray).data.toList (ByteArray.mk #[45, 45, 45]).data.toList = l := by
      show Lib.trimPrefix l [45, 45, 45] = l
      rw [Lib.trimPrefix, hp]; rfl
    have e2 : Lib.hasPrefix (ByteArray.mk l.toArray).data.toList (ByteArray.mk #[45, 45, 45]).data.toList = false := hp
    simp only [e1, e2] at c57
    clear e1 e2
    have HD : Hid (docF l = false) := by show _ = _; rw [docF, hp]; rfl
    go_enter Tryd.func38, Tryd.ntmps38
    go_wp2_with (go_at_call 57; refine (c57 _).mono ?_; rintro e w' ⟨rfl, rfl⟩)
    go_ret
    exact ⟨ret_bool (by rw [HD.out]), rfl⟩
  · have e1 : Lib.trimPrefix (ByteArray.mk l.toArray).data.toList (ByteArray.mk #[45, 45, 45]).data.toList = l.drop 3 := by
      show Lib.trimPrefix l [45, 45, 45] = l.drop 3
      rw [Lib.trimPrefix, hp]; rfl
    have e2 : Lib.hasPrefix (ByteArray.mk l.toArray).data.toList (ByteArray.mk #[45, 45, 45]).data.toList = true := hp
    simp only [e1, e2] at c57
    clear e1 e2
    have HD : Hid (docF l = nulF (l.drop 3)) := by show _ = _; rw [docF, hp]; rfl
    obtain ⟨d, hd⟩ : ∃ d, l.drop 3 = d := ⟨_, rfl⟩
    have hdl : d.length ≤ 2 ^ 62 := by rw [← hd]; simp; omega
    simp only [hd] at c57
    rw [hd] at HD
    clear hd
    go_enter Tryd.func38, Tryd.ntmps38
    go_wp2_with (first | (go_at_call 57; refine (c57 _).mono ?_; rintro e w' ⟨rfl, rfl⟩) | (go_at_call 48; refine (saysNothing_any d _ hdl).mono ?_; rintro e w' ⟨rfl, rfl⟩))
    go_ret
    exact ⟨ret_bool (by rw [HD.out]), rfl⟩
end Go.Proofs.YtjmgngocpokpgaaDoor
