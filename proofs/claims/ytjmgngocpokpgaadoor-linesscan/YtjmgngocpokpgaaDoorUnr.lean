/-
  Texts between single quotes; texts between quotes.
-/
import Derived.Test.YtjmgngocpokpgaaDoorUnq
namespace Go.Proofs.YtjmgngocpokpgaaDoor
open Go.RowKit
set_option linter.unusedVariables false
set_option linter.unusedSimpArgs false
theorem pre_at (l : List UInt8) (k : Nat) (p : List UInt8) (b : Bool) (h : Lib.hasPrefix (l.drop k) p = b) (w : World) : Calls Tryd.prog 59 #[.string ((ByteArray.mk l.toArray).extract k l.length), .string ⟨p.toArray⟩] w fun e w' => e = .returned (.bool b) ∧ w' = w := by
  rw [extract_drop]
  have := Tryd.strings_HasPrefix ⟨(l.drop k).toArray⟩ ⟨p.toArray⟩ w
  subst h
  exact this
theorem two_of {l : List UInt8} {k : Nat} {a b : UInt8} (h : Lib.hasPrefix (l.drop k) [a, b] = true) : l[k + 1]? = some b := by
  unfold Lib.hasPrefix at h
  obtain ⟨r, hr⟩ := List.isPrefixOf_iff_prefix.1 h
  have : (l.drop k)[1]? = some b := by rw [← hr]; rfl
  rw [List.getElem?_drop] at this
  exact this
set_option maxHeartbeats 4000000 in
set_option maxRecDepth 100000 in
theorem unqS_any (l : List UInt8) (w : World) (hs : l.length ≤ 2 ^ 40) :
    Calls Tryd.prog 63 #[.string ⟨l.toArray⟩] w fun e w' => e = txtE (unqS l l.length 1 []) ∧ Below w.heap.size w w' := by
  obtain ⟨i5, hi5, hz50, hz51, hz52⟩ := info_parts Tryd.info5
  go_enter Tryd.func63, Tryd.ntmps63
  go_wp2
  go_loopw [5, 6] (fun v t wr => ∃ (n k a : Nat) (acc : List UInt8), t = .int .i64 k ∧ unqS l l.length 1 [] = unqS l n k acc ∧ l.length < n + k ∧ acc.length = a ∧ a < k ∧ k ≤ l.length + 1 ∧ wr.ownsRow w.heap.size 5 1 v a (vals (zL acc)) ∧ Below w.heap.size w wr) (fun _ t _ => l.length + 4 - (intOf t).toNat)
  case atStart => exact ⟨l.length, 1, 0, [], rfl, rfl, by omega, rfl, by omega, by omega, World.ownsRow_nil _ _ _ _, Below.refl _ _⟩
  case round =>
    obtain ⟨n, k, a, acc, rfl, he, hn, hal, hak, hk, hown, hbel⟩ := hrel
    have HE := hide2 he
    have HO := hide2 hown
    have HB := hide2 hbel
    have HA := hide2 hal
    clear he hown hbel hal
    have k0 : (0 : Int) ≤ k := by omega
    rcases ik : l[k]? with _ | c
    · have hl := len_none ik
      have hl' : ¬ (k : Int) < l.length := by omega
      go_wp2
      refine bodyPost_ret (v := .tuple #[.string ⟨#[]⟩, .int .i64 0, .bool false]) (by simp [results, Tryd.results63, go_sem]) rfl ?_
      exact ⟨by rw [HE.out, unqS_none _ _ _ _ (by omega)]; rfl, HB.out⟩
    · have ek := ix_eq ik
      have hkl := ix_lt ik
      have hl' : (k : Int) < l.length := by omega
      have lo := u8_lo c
      have hi := u8_hi c
      obtain ⟨n, rfl⟩ : ∃ n', n = n' + 1 := ⟨n - 1, by omega⟩
      by_cases h1 : (c.toNat : Int) = 39
      · rcases hp : Lib.hasPrefix (l.drop k) [39, 39] with _ | _
        · have HX : Hid (unqS l (n + 1) k acc = some (acc, k + 1)) := by show _ = _; rw [unqS, ik]; simp [h1, hp]
          have hpa := pre_at l k [39, 39] false hp
          clear hp
          have hcv := str_row wr w.heap.size a _ acc HA.out HO.out
          go_wp2_with (go_at_call 59; refine (hpa _).mono ?_; rintro e w' ⟨rfl, rfl⟩)
          refine bodyPost_ret (v := .tuple #[.string ⟨acc.toArray⟩, .int .i64 (k + 1), .bool true]) (by simp [results, Tryd.results63, go_sem]) rfl ?_
          exact ⟨by rw [HE.out, HX.out]; rfl, HB.out⟩
        · have HX : Hid (unqS l (n + 1) k acc = unqS l n (k + 2) (acc ++ [39])) := by show _ = _; rw [unqS, ik]; simp [h1, hp]
          have ik1 := two_of hp
          have ek1 := ix_eq ik1
          have hkl1 := ix_lt ik1
          have hl1 : ((k : Int) + 1) < l.length := by omega
          have hpa := pre_at l k [39, 39] true hp
          clear hp
          go_wp2_with (first | (go_at_call 59; refine (hpa _).mono ?_; rintro e w' ⟨rfl, hw⟩; have hw := hw.symm; subst hw) | (at_builtin; refine wpList_append_form _ rfl (.tmp 28) (.tmp 32) 22 rfl w.heap.size 5 i5 (.int .u8 0) 1 1 Tryd.underlying22 hi5 hz50 hz51 hz52 rfl (by decide) _ a (vals (zL acc)) rfl (HO.out.alloc _) ⟨wr.heap.size, 0, none⟩ 1 1 (vals [((39 : UInt8).toNat : Int)]) rfl rfl (World.news_of_block (heap_alloc_new wr _)) (vals_one _) (by omega) (by unfold maxLen; omega) (by omega) (by have := HB.out.size; simp; omega) ?_; intro g2 c2 w2 hown2 hgrow2; obtain ⟨O2, B2⟩ := app_one HA.out HO.out HB.out (Nat.le_refl _) hown2 hgrow2; clear hown2 hgrow2))
          go_roundw
          case rel => exact ⟨n, k + 2, a + 1, acc ++ [39], by go_num, by rw [HE.out, HX.out], by omega, by simp [HA.out], by omega, by omega, by have := O2.out; simpa [HA.out] using this, B2.out⟩
          case measure => simp [intOf]; omega
      · have HX : Hid (unqS l (n + 1) k acc = unqS l n (k + 1) (acc ++ [c])) := by show _ = _; rw [unqS, ik]; simp [h1]
        go_wp2_with (at_builtin; refine wpList_append_form _ rfl (.tmp 28) (.tmp 32) 22 rfl w.heap.size 5 i5 (.int .u8 0) 1 1 Tryd.underlying22 hi5 hz50 hz51 hz52 rfl (by decide) _ a (vals (zL acc)) rfl (HO.out.alloc _) ⟨wr.heap.size, 0, none⟩ 1 1 (vals [(c.toNat : Int)]) rfl rfl (World.news_of_block (heap_alloc_new wr _)) (vals_one _) (by omega) (by unfold maxLen; omega) (by omega) (by have := HB.out.size; simp; omega) ?_; intro g2 c2 w2 hown2 hgrow2; obtain ⟨O2, B2⟩ := app_one HA.out HO.out HB.out (Nat.le_refl _) hown2 hgrow2; clear hown2 hgrow2)
        go_roundw
        case rel => exact ⟨n, k + 1, a + 1, acc ++ [c], by go_num, by rw [HE.out, HX.out], by omega, by simp [HA.out], by omega, by omega, by have := O2.out; simpa [HA.out] using this, B2.out⟩
        case measure => simp [intOf]; omega
def unqF (l : List UInt8) : Option (List UInt8 × Nat) := match l with
  | [] => none
  | c :: _ => if (c.toNat : Int) = 34 then unqD l l.length 1 [] else unqS l l.length 1 []
theorem unqD_le (l : List UInt8) : ∀ (n k : Nat) (acc t : List UInt8) (m : Nat), unqD l n k acc = some (t, m) → k < m ∧ m ≤ l.length
  | 0, k, acc, t, m, h => by cases h
  | n + 1, k, acc, t, m, h => by
    rw [unqD] at h
    rcases ik : l[k]? with _ | c
    · rw [ik] at h; cases h
    · have := ix_lt ik
      rw [ik] at h
      dsimp only at h
      split at h
      · cases h; omega
      · split at h
        · rcases hE : escF (l.drop k) with _ | ⟨d, j⟩
          · rw [hE] at h; cases h
          · rw [hE] at h
            have := unqD_le l n _ _ _ _ h
            have := escF_pos hE
            omega
        · have := unqD_le l n _ _ _ _ h; omega
theorem unqS_le (l : List UInt8) : ∀ (n k : Nat) (acc t : List UInt8) (m : Nat), unqS l n k acc = some (t, m) → k < m ∧ m ≤ l.length
  | 0, k, acc, t, m, h => by cases h
  | n + 1, k, acc, t, m, h => by
    rw [unqS] at h
    rcases ik : l[k]? with _ | c
    · rw [ik] at h; cases h
    · have := ix_lt ik
      rw [ik] at h
      dsimp only at h
      split at h
      · split at h
        · have := unqS_le l n _ _ _ _ h; omega
        · cases h; omega
      · have := unqS_le l n _ _ _ _ h; omega
theorem unqF_le {l t : List UInt8} {m : Nat} (h : unqF l = some (t, m)) : 1 < m ∧ m ≤ l.length := by
  unfold unqF at h
  cases l with
  | nil => cases h
  | cons c r =>
    dsimp only at h
    split at h
    · exact unqD_le _ _ _ _ _ _ h
    · exact unqS_le _ _ _ _ _ _ h
set_option maxHeartbeats 1000000 in
theorem unq_any (c : UInt8) (r : List UInt8) (w : World) (hs : (c :: r).length ≤ 2 ^ 40) :
    Calls Tryd.prog 47 #[.string ⟨(c :: r).toArray⟩] w fun e w' => e = txtE (unqF (c :: r)) ∧ Below w.heap.size w w' := by
  have lo := u8_lo c
  have hi := u8_hi c
  obtain ⟨l, hl⟩ : ∃ l, c :: r = l := ⟨_, rfl⟩
  have i0 : l[0]? = some c := by rw [← hl]; rfl
  have HF : Hid (unqF l = if (c.toNat : Int) = 34 then unqD l l.length 1 [] else unqS l l.length 1 []) := by show _ = _; rw [← hl]; rfl
  rw [hl] at hs ⊢
  clear hl
  have e0 := ix_eq i0
  have l0 : (0 : Int) < l.length := by have := ix_lt i0; omega
  by_cases h : (c.toNat : Int) = 34
  · rw [if_pos h] at HF
    rcases hu : unqD l l.length 1 [] with _ | ⟨t, m⟩
    all_goals
      have hc := unqD_any l w hs
      rw [hu] at hc HF
      dsimp only [txtE] at hc
      go_enter Tryd.func47, Tryd.ntmps47
      go_wp2_with (go_at_call 62; refine hc.mono ?_; rintro e w' ⟨rfl, hb⟩)
      go_ret3
      exact ⟨by rw [HF.out]; rfl, hb⟩
  · rw [if_neg h] at HF
    rcases hu : unqS l l.length 1 [] with _ | ⟨t, m⟩
    all_goals
      have hc := unqS_any l w hs
      rw [hu] at hc HF
      dsimp only [txtE] at hc
      go_enter Tryd.func47, Tryd.ntmps47
      go_wp2_with (go_at_call 63; refine hc.mono ?_; rintro e w' ⟨rfl, hb⟩)
      go_ret3
      exact ⟨by rw [HF.out]; rfl, hb⟩
end Go.Proofs.YtjmgngocpokpgaaDoor
