import Derived.Test.YtmljljpldljpjaaBndL
import Derived.Shelf.Small.Strs
import Derived.Deep.RegionHeld3
/-
  The document's own: a host folded, paths and methods asked.
-/
namespace Go.Proofs.Ytmljljpldljpjaa.Kk
open Go.RowKit
set_option linter.unusedVariables false
set_option linter.unusedSimpArgs false
set_option maxRecDepth 100000
def fdF (l : List UInt8) : List UInt8 := if hostB l then fldF l else []
theorem own_nil (w : World) (base : Nat) (e : TypeId) (size : Nat) : w.ownsRow base e size (.slice none 0 0) 0 [] := ⟨by simp, .inl ⟨rfl, rfl⟩⟩
theorem own_form {w : World} {base : Nat} {e : TypeId} {size : Nat} {v : Value} {n : Nat} {xs : List Value} (h : w.ownsRow base e size v n xs) : ∃ a cp, v = .slice a n cp ∧ (a = none → cp = 0) ∧ n ≤ cp ∧ cp ≤ maxLen := by
  rcases h.2 with ⟨rfl, h0⟩ | ⟨g, cp, cur, rfl, _, _, hc, hm, _⟩
  · subst h0; exact ⟨none, 0, rfl, fun _ => rfl, Nat.le_refl _, by decide⟩
  · exact ⟨_, cp, rfl, (fun h => by cases h), hc, hm⟩
theorem app_one {w wr w3 : World} {base k g3 c3 : Nat} {v : Value} {o : Obj} {acc : List UInt8} {c : UInt8} {z : Int} (hz : (c.toNat : Int) = z) (HO : wr.ownsRow base 5 1 v k (vals (zL acc))) (HB : Below base w wr) (hb : base ≤ w.heap.size)
    (hown : w3.ownsRow base 5 1 (.slice (some ⟨g3, 0, none⟩) (k + 1) c3) (k + 1) (vals (zL acc) ++ vals [z])) (hg : (wr.alloc o).grownBy w3 v.ownBlock) :
    Hid (w3.ownsRow base 5 1 (.slice (some ⟨g3, 0, none⟩) (k + 1) c3) (k + 1) (vals (zL (acc ++ [c])))) ∧ Hid (Below base w w3) := by
  refine ⟨?_, ?_⟩
  · show w3.ownsRow _ _ _ _ _ _
    rw [zL_append, vals_append]
    have : zL [c] = [z] := by simp [zL, hz]
    rw [this]; exact hown
  · have hs : base ≤ wr.heap.size := Nat.le_trans hb HB.size
    exact (HB.alloc hs _).grown hg (by simp; omega) (fun k h => by
      have := (HO.lt k h).1
      omega)
theorem str_own (w : World) (base n : Nat) (v : Value) (l : List UInt8) (hn : l.length = n) (h0 : 0 < n) (hB : w.ownsRow base 5 1 v n (vals (zL l))) : (convert 127 9 v).run Try.prog w = .ok (.string ⟨l.toArray⟩) w := by
  rcases hB.2 with ⟨rfl, h1⟩ | ⟨g, cap, cur, rfl, _, hgg, _⟩
  · omega
  · exact str_has w g n cap l hn (own_has hB)
theorem fldF_snoc (l : List UInt8) (k : Nat) (h : k < l.length) : fldF (l.take (k + 1)) = fldF (l.take k) ++ [smlF l[k]] := by
  rw [take_one l k h, fldF, fldF, List.map_append]; rfl
theorem hos_snoc {l : List UInt8} {k : Nat} (hlt : k < l.length) (HI : ∀ i (h : i < l.length), i < k → hosF (l[i].toNat : Int) = true) (HH : hosF (l[k].toNat : Int) = true) : ∀ i (h : i < l.length), i < k + 1 → hosF (l[i].toNat : Int) = true := fun i h h2 => by
  rcases Nat.lt_succ_iff_lt_or_eq.1 h2 with h3 | rfl
  · exact HI i h h3
  · exact HH
end Go.Proofs.Ytmljljpldljpjaa.Kk

/-
  The document's own: paths and methods asked; what a text ends and begins with.
-/
namespace Go.Proofs.Ytmljljpldljpjaa.Kk
open Go.RowKit
set_option linter.unusedVariables false
set_option linter.unusedSimpArgs false
set_option maxRecDepth 100000
set_option maxHeartbeats 4000000 in
theorem rpath_any (l : List UInt8) (w : World) (hs : l.length ≤ 2 ^ 62) : Calls Try.prog 72 #[.string ⟨l.toArray⟩] w fun e w' => e = .returned (.bool (pathB l)) ∧ w' = w := by
  go_enter Try.func72, Try.ntmps72
  go_wp2
  go_loop [3] (fun i => ∃ k : Nat, k ≤ l.length ∧ i = .int .i64 k ∧ ∀ j (hj : j < k) (hk : j < l.length), patF (l[j].toNat : Int) = true) (fun i => l.length - (intOf i).toNat)
  case atStart => exact ⟨0, Nat.zero_le _, rfl, fun j hj => by omega⟩
  case round =>
    obtain ⟨k, hk, rfl, hall⟩ := hrel
    have HA := hide2 hall
    clear hall
    have k0 : (0 : Int) ≤ k := by omega
    by_cases hlt : k < l.length
    · have hlt' : (k : Int) < l.length := by omega
      cases hp : patF ((ByteArray.mk l.toArray)[k].toNat : Int) with
      | true =>
        have HP := hide2 hp
        simp only [patF, decide_eq_true_eq] at hp
        have b1 : ¬ ((ByteArray.mk l.toArray)[k].toNat : Int) < 33 := by omega
        have b2 : ¬ 126 < ((ByteArray.mk l.toArray)[k].toNat : Int) := by omega
        clear hp
        go_wp2
        go_round
        case rel =>
          refine ⟨k + 1, by omega, by go_num, fun j hj hk => ?_⟩
          rcases Nat.lt_succ_iff_lt_or_eq.1 hj with h | rfl
          · exact HA.out j h hk
          · exact HP.out
        case measure => simp [intOf]; omega
      | false =>
        have HM : Hid (pathB l = false) := by simp [Hid, pathB, madF_false hlt hp]
        simp only [patF, decide_eq_false_iff_not] at hp
        by_cases b1 : ((ByteArray.mk l.toArray)[k].toNat : Int) < 33
        · clear hp
          go_wp2
          go_ret
          exact ⟨ret_bool HM.out.symm, rfl⟩
        · have b2 : 126 < ((ByteArray.mk l.toArray)[k].toNat : Int) := by omega
          clear hp
          go_wp2
          go_ret
          exact ⟨ret_bool HM.out.symm, rfl⟩
    · have hlt' : ¬ (k : Int) < l.length := by omega
      have HM : Hid (madF patF l = !l.isEmpty) := madF_true fun j hj => HA.out j (by omega) hj
      clear HA
      rcases l with _ | ⟨c, l⟩
      · go_wp2
        go_ret
        exact ⟨rfl, rfl⟩
      · by_cases h64 : (c :: l).length ≤ 256
        · have h2 : (l.length : Int) + 1 ≤ 256 := by simp only [List.length_cons] at h64; omega
          have h3 : (1 : Int) ≤ (l.length : Int) + 1 := by omega
          have HM2 : Hid (pathB (c :: l) = ((c.toNat : Int) == 47)) := by
            have : (c == 47) = ((c.toNat : Int) == 47) := by rw [Bool.eq_iff_iff]; simp [← UInt8.toNat_inj]; omega
            simp only [Hid, pathB, HM.out, h64]
            rw [← this]; simp
          clear h64
          go_wp2
          go_ret
          exact ⟨ret_bool (by rw [HM2.out]; rfl), rfl⟩
        · have h2 : ¬ (l.length : Int) + 1 ≤ 256 := by simp only [List.length_cons] at h64; omega
          have h3 : (1 : Int) ≤ (l.length : Int) + 1 := by omega
          have HM2 : Hid (pathB (c :: l) = false) := by simp only [Hid, pathB, HM.out, h64]; rfl
          clear h64
          go_wp2
          go_ret
          exact ⟨ret_bool HM2.out.symm, rfl⟩
theorem extract_drop (l : List UInt8) (k : Nat) : (ByteArray.mk l.toArray).extract k l.length = ⟨(l.drop k).toArray⟩ := by
  apply ByteArray.ext
  simp [ByteArray.data_extract]
  exact List.take_of_length_le (by simp)
theorem extract_take (l : List UInt8) (k : Nat) : (ByteArray.mk l.toArray).extract 0 k = ⟨(l.take k).toArray⟩ := by
  apply ByteArray.ext
  simp [ByteArray.data_extract]
theorem toList_mk (l : List UInt8) : (ByteArray.mk l.toArray).toList = l := by
  rw [ByteArray.toList_eq]
theorem suf_iff (l t : List UInt8) : Lib.hasSuffix l t = true ↔ t <:+ l := by simp [Lib.hasSuffix]
theorem pre_iff (l t : List UInt8) : Lib.hasPrefix l t = true ↔ t <+: l := by simp [Lib.hasPrefix]
theorem suf_eq (l t : List UInt8) : (l.drop (l.length - t.length) == t) = Lib.hasSuffix l t := by
  rw [Bool.eq_iff_iff, suf_iff, beq_iff_eq]
  rw [List.suffix_iff_eq_drop]
  exact eq_comm
theorem pre_eq (l t : List UInt8) : (l.take t.length == t) = Lib.hasPrefix l t := by
  rw [Bool.eq_iff_iff, pre_iff, beq_iff_eq]
  rw [List.prefix_iff_eq_take]
  exact eq_comm
theorem ends_any (l t : List UInt8) (w : World) (hs : l.length ≤ 2 ^ 62) (ht : t.length ≤ 2 ^ 62) : Calls Try.prog 73 #[.string ⟨l.toArray⟩, .string ⟨t.toArray⟩] w fun e w' => e = .returned (.bool (Lib.hasSuffix l t)) ∧ w' = w := by
  by_cases h : t.length ≤ l.length
  · have h1 : (t.length : Int) ≤ l.length := by omega
    go_enter Try.func73, Try.ntmps73
    go_wp2
    go_ret
    exact ⟨ret_bool (by rw [extract_drop, toList_mk, suf_eq]), rfl⟩
  · have h1 : ¬ (t.length : Int) ≤ l.length := by omega
    have HE : Hid (Lib.hasSuffix l t = false) := by
      show _ = _
      rw [← Bool.not_eq_true, suf_iff]
      exact fun hh => h hh.length_le
    go_enter Try.func73, Try.ntmps73
    go_wp2
    go_ret
    exact ⟨ret_bool HE.out.symm, rfl⟩
theorem begins_any (l t : List UInt8) (w : World) (hs : l.length ≤ 2 ^ 62) (ht : t.length ≤ 2 ^ 62) : Calls Try.prog 55 #[.string ⟨l.toArray⟩, .string ⟨t.toArray⟩] w fun e w' => e = .returned (.bool (Lib.hasPrefix l t)) ∧ w' = w := by
  by_cases h : t.length ≤ l.length
  · have h1 : (t.length : Int) ≤ l.length := by omega
    go_enter Try.func55, Try.ntmps55
    go_wp2
    go_ret
    exact ⟨ret_bool (by rw [extract_take, toList_mk, pre_eq]), rfl⟩
  · have h1 : ¬ (t.length : Int) ≤ l.length := by omega
    have HE : Hid (Lib.hasPrefix l t = false) := by
      show _ = _
      rw [← Bool.not_eq_true, pre_iff]
      exact fun hh => h hh.length_le
    go_enter Try.func55, Try.ntmps55
    go_wp2
    go_ret
    exact ⟨ret_bool HE.out.symm, rfl⟩
/-- what stands ahead of a star at the end -/
def starT (l : List UInt8) : List UInt8 := Lib.trimSuffix l [42]
def starB (l : List UInt8) : Bool := Lib.hasSuffix l [42]
theorem starT_no {l : List UInt8} (h : starB l = false) : starT l = l := by
  unfold starB at h
  rw [starT, Lib.trimSuffix, h]; rfl
theorem starT_yes {l : List UInt8} (h : starB l = true) : starT l = l.take (l.length - 1) := by
  unfold starB at h
  rw [starT, Lib.trimSuffix, h]; rfl
theorem starB_pos {l : List UInt8} (h : starB l = true) : 1 ≤ l.length := by
  rw [starB, suf_iff] at h
  exact h.length_le
theorem star_any (l : List UInt8) (w : World) (hs : l.length ≤ 2 ^ 62) : Calls Try.prog 54 #[.string ⟨l.toArray⟩] w fun e w' => e = .returned (.tuple #[.string ⟨(starT l).toArray⟩, .bool (starB l)]) ∧ w' = w := by
  have hE := ends_any l [42] w hs (by simp)
  rw [show Lib.hasSuffix l [42] = starB l from rfl] at hE
  cases h : starB l with
  | true =>
    rw [h] at hE
    have h1 : (1 : Int) ≤ l.length := by have := starB_pos h; omega
    have HT := hide2 (starT_yes h)
    have HB := hide2 h
    clear h
    go_enter Try.func54, Try.ntmps54
    go_wp2_with (go_at_call 73; refine hE.mono ?_; rintro e w' ⟨rfl, rfl⟩)
    go_ret2
    exact ⟨by rw [extract_take, HT.out]; rfl, rfl⟩
  | false =>
    rw [h] at hE
    have HT := hide2 (starT_no h)
    clear h
    go_enter Try.func54, Try.ntmps54
    go_wp2_with (go_at_call 73; refine hE.mono ?_; rintro e w' ⟨rfl, rfl⟩)
    go_ret2
    exact ⟨by rw [HT.out]; rfl, rfl⟩
end Go.Proofs.Ytmljljpldljpjaa.Kk

/-
  A text as a host pattern: its sort, and what stands in it: the program's and the document's.
-/
namespace Go.Proofs.Ytmljljpldljpjaa.Kk
open Go.RowKit
set_option linter.unusedVariables false
set_option linter.unusedSimpArgs false
set_option maxRecDepth 100000
def srtF (l : List UInt8) : Int × List UInt8 := if l = [42] then (2, []) else if Lib.hasPrefix l [42, 46] then (if hostB (l.drop 2) then (1, fldF (l.drop 2)) else (3, l)) else if hostB l then (0, fldF l) else (3, l)
def patV (p : Int × List UInt8) : Value := .agg #[.int .i64 p.1, .string ⟨p.2.toArray⟩]
theorem srt_all : srtF [42] = (2, []) := by simp [srtF]
theorem srt_cases (l : List UInt8) : l = [42] ∨ (∃ r, l = 42 :: 46 :: r ∧ hostB r = true ∧ srtF l = (1, fldF r)) ∨ (∃ r, l = 42 :: 46 :: r ∧ hostB r = false ∧ srtF l = (3, l)) ∨
    (¬ l = [42] ∧ Lib.hasPrefix l [42, 46] = false ∧ hostB l = true ∧ srtF l = (0, fldF l)) ∨ (¬ l = [42] ∧ Lib.hasPrefix l [42, 46] = false ∧ hostB l = false ∧ srtF l = (3, l)) := by
  by_cases h1 : l = [42]
  · exact .inl h1
  cases h2 : Lib.hasPrefix l [42, 46] with
  | true =>
    obtain ⟨r, rfl⟩ := (pre_iff _ _).1 h2
    simp only [List.cons_append, List.nil_append] at h1 h2 ⊢
    cases h3 : hostB r with
    | true => exact .inr (.inl ⟨r, rfl, h3, by rw [srtF, if_neg h1, if_pos h2]; simp [h3]⟩)
    | false => exact .inr (.inr (.inl ⟨r, rfl, h3, by rw [srtF, if_neg h1, if_pos h2]; simp [h3]⟩))
  | false =>
    cases h3 : hostB l with
    | true => exact .inr (.inr (.inr (.inl ⟨h1, rfl, rfl, by rw [srtF, if_neg h1, if_neg (by simp [h2]), if_pos h3]⟩)))
    | false => exact .inr (.inr (.inr (.inr ⟨h1, rfl, rfl, by rw [srtF, if_neg h1, if_neg (by simp [h2]), if_neg (by simp [h3])]⟩)))
/-- two blocks of two cells each, laid at the world's end, and kept -/
structure Two (w w1 : World) (a0 a1 b0 b1 : Value) : Prop where
  c0 : w1.cell? ⟨w.heap.size, 0, none⟩ = some a0
  c1 : w1.cell? ⟨w.heap.size, 1, none⟩ = some a1
  d0 : w1.cell? ⟨w.heap.size + 1, 0, none⟩ = some b0
  d1 : w1.cell? ⟨w.heap.size + 1, 1, none⟩ = some b1
  f0 : w1.frozen? ⟨w.heap.size, 0, none⟩ = false
  f1 : w1.frozen? ⟨w.heap.size, 1, none⟩ = false
  g0 : w1.frozen? ⟨w.heap.size + 1, 0, none⟩ = false
  g1 : w1.frozen? ⟨w.heap.size + 1, 1, none⟩ = false
  below : Below w.heap.size w w1
theorem below_set {n b : Nat} {w w1 : World} (h : Below n w w1) (hn : n ≤ w.heap.size) (hb : n ≤ b) (o : Nat) (v : Value) : Below n w (w1.setCell ⟨b, o, none⟩ v) :=
  h.trans ((But.set o v).below (Nat.le_trans hn h.size) hb)
end Go.Proofs.Ytmljljpldljpjaa.Kk

/-
  The document's sort of a host pattern; which texts are patterns, of both.
-/
namespace Go.Proofs.Ytmljljpldljpjaa.Kk
open Go.RowKit
set_option linter.unusedVariables false
set_option linter.unusedSimpArgs false
set_option maxRecDepth 100000
def srtR (l : List UInt8) : Value := .tuple #[.int .i64 ((srtF l).1 + 1), .string ⟨(srtF l).2.toArray⟩]
theorem pre_two (l : List UInt8) : (((ByteArray.mk l.toArray).extract 0 2).toList == [42, 46]) = Lib.hasPrefix l [42, 46] := by
  rw [extract_take, toList_mk]
  exact pre_eq l [42, 46]
def hpB (l : List UInt8) : Bool := decide ((srtF l).1 < 3)
def ppB (l : List UInt8) : Bool := (l == [42]) || pathB (starT l)
def mpB (l : List UInt8) : Bool := (l == [42]) || methB l
theorem srt_low (l : List UInt8) : (srtF l).1 = 0 ∨ (srtF l).1 = 1 ∨ (srtF l).1 = 2 ∨ (srtF l).1 = 3 := by
  rcases srt_cases l with rfl | ⟨r, rfl, hh, hE⟩ | ⟨r, rfl, hh, hE⟩ | ⟨h1, h2, hh, hE⟩ | ⟨h1, h2, hh, hE⟩
  · rw [srt_all]; simp
  all_goals rw [hE]; simp
theorem trim_star (l : List UInt8) (w : World) (hs : l.length ≤ 2 ^ 62) : Calls Try.prog 96 #[.string ⟨l.toArray⟩, .string ⟨#[42]⟩] w fun e w' => e = .returned (.string ⟨(starT l).toArray⟩) ∧ w' = w :=
  Try.strings_TrimSuffix ⟨l.toArray⟩ ⟨#[42]⟩ w (by show l.length ≤ _; omega)
theorem starT_len (l : List UInt8) : (starT l).length ≤ l.length := by
  unfold starT Lib.trimSuffix
  split
  · simp
  · exact Nat.le_refl _
theorem pathPattern_any (l : List UInt8) (w : World) (hs : l.length ≤ 2 ^ 62) : Calls Try.prog 94 #[.string ⟨l.toArray⟩] w fun e w' => e = .returned (.bool (ppB l)) ∧ w' = w := by
  cases h : (l == [42]) with
  | true =>
    have : l = [42] := by simpa using h
    subst this
    go_enter Try.func94, Try.ntmps94
    go_wp2_with fail
    go_ret
    exact ⟨ret_bool (by rfl), rfl⟩
  | false =>
    have HE : Hid (ppB l = pathB (starT l)) := hide2 (by simp [ppB, h])
    have hT := trim_star l w hs
    have hI := isPath_any (starT l) w (Nat.le_trans (starT_len l) hs)
    go_enter Try.func94, Try.ntmps94
    go_wp2_with (first | (go_at_call 96; refine hT.mono ?_; rintro e w1 ⟨rfl, hw⟩; have hw := hw.symm; subst hw) | (go_at_call 98; refine hI.mono ?_; rintro e w1 ⟨rfl, hw⟩; have hw := hw.symm; subst hw))
    go_ret
    exact ⟨ret_bool HE.out.symm, rfl⟩
theorem ppB_ref (l : List UInt8) : ((starB l && (starT l == [])) || pathB (starT l)) = ppB l := by
  unfold ppB
  congr 1
  rw [Bool.eq_iff_iff]
  simp only [Bool.and_eq_true, beq_iff_eq]
  constructor
  · rintro ⟨h1, h2⟩
    rw [starT_yes h1] at h2
    rw [starB, suf_iff] at h1
    obtain ⟨p, rfl⟩ := h1
    simp at h2
    rw [h2]; rfl
  · rintro rfl
    exact ⟨rfl, rfl⟩
theorem rpathPattern_any (l : List UInt8) (w : World) (hs : l.length ≤ 2 ^ 62) : Calls Try.prog 53 #[.string ⟨l.toArray⟩] w fun e w' => e = .returned (.bool (ppB l)) ∧ w' = w := by
  have hS := star_any l w hs
  have hI := rpath_any (starT l) w (Nat.le_trans (starT_len l) hs)
  have HR := hide2 (ppB_ref l)
  obtain ⟨t, ht⟩ : ∃ t, starT l = t := ⟨_, rfl⟩
  obtain ⟨b, hb⟩ : ∃ b, starB l = b := ⟨_, rfl⟩
  rw [ht, hb] at hS HR
  rw [ht] at hI
  clear ht hb
  have fin : ∀ x : Bool, ((b && (t == [])) || pathB t) = x → x = ppB l := fun x h => h.symm.trans HR.out
  have FIN := hide2 fin
  clear fin HR
  cases b with
  | false =>
    go_enter Try.func53, Try.ntmps53
    go_wp2_with (first | (go_at_call 54; refine hS.mono ?_; rintro e w1 ⟨rfl, hw⟩; have hw := hw.symm; subst hw) | (go_at_call 72; refine hI.mono ?_; rintro e w1 ⟨rfl, hw⟩; have hw := hw.symm; subst hw))
    go_ret
    exact ⟨ret_bool (FIN.out _ (by simp)), rfl⟩
  | true =>
    by_cases h0 : t = []
    · subst h0
      go_enter Try.func53, Try.ntmps53
      go_wp2_with (first | (go_at_call 54; refine hS.mono ?_; rintro e w1 ⟨rfl, hw⟩; have hw := hw.symm; subst hw) | (go_at_call 72; refine hI.mono ?_; rintro e w1 ⟨rfl, hw⟩; have hw := hw.symm; subst hw))
      go_ret
      exact ⟨ret_bool (FIN.out _ (by simp)), rfl⟩
    · have h1 : t.isEmpty = false := by simpa using h0
      have H0 := hide2 h0
      clear h0
      go_enter Try.func53, Try.ntmps53
      go_wp2_with (first | (go_at_call 54; refine hS.mono ?_; rintro e w1 ⟨rfl, hw⟩; have hw := hw.symm; subst hw) | (go_at_call 72; refine hI.mono ?_; rintro e w1 ⟨rfl, hw⟩; have hw := hw.symm; subst hw))
      go_ret
      exact ⟨ret_bool (FIN.out _ (by simp [H0.out])), rfl⟩
end Go.Proofs.Ytmljljpldljpjaa.Kk

/-
  PathsPatterns: the walk.
-/
namespace Go.Proofs.Ytmljljpldljpjaa.Kk
open Go.RowKit
set_option linter.unusedVariables false
set_option linter.unusedSimpArgs false
set_option maxRecDepth 100000
theorem at_below {f : Nat} {args : Array Value} {w : World} {b : Bool} (h : Calls Try.prog f args w fun e w' => e = .returned (.bool b) ∧ w' = w) : Calls Try.prog f args w fun e w' => e = .returned (.bool b) ∧ Below w.heap.size w w' :=
  h.mono fun e w' ⟨h1, h2⟩ => ⟨h1, by rw [h2]; exact Below.refl _ _⟩
theorem below_two {w w1 w2 : World} (h : Below w.heap.size w w1) (h2 : Below w1.heap.size w1 w2) : Below w.heap.size w w2 := h.trans (h2.mono h.size)
end Go.Proofs.Ytmljljpldljpjaa.Kk

/-
  Whether a pattern takes a host, a path, a method: the program's and the document's.
-/
namespace Go.Proofs.Ytmljljpldljpjaa.Kk
open Go.RowKit
set_option linter.unusedVariables false
set_option linter.unusedSimpArgs false
set_option maxRecDepth 100000
theorem str_add (w : World) (x y : List UInt8) (h : x.length + y.length ≤ 9223372036854775807) : (Op.stringOp .add (ByteArray.mk x.toArray) ⟨y.toArray⟩).run Try.prog w = .ok (.string ⟨(x ++ y).toArray⟩) w := by
  have e := run_string_add_sum (P := Try.prog) (w := w) (a := ByteArray.mk x.toArray) (b := ⟨y.toArray⟩) h
  rw [e]
  congr 2
def belF (h a : List UInt8) : Bool := Lib.hasSuffix h (46 :: a)
def takF (p : Int × List UInt8) (h : List UInt8) : Bool := if p.1 = 0 then (h == p.2) else if p.1 = 1 then belF h p.2 else (p.1 == 2)
def hostM (a s : List UInt8) : Bool := hostB s && takF (srtF a) (fldF s)
theorem fldF_len (l : List UInt8) : (fldF l).length = l.length := by simp [fldF]
theorem srt_len (l : List UInt8) : (srtF l).2.length ≤ l.length := by
  rcases srt_cases l with rfl | ⟨r, rfl, hh, hE⟩ | ⟨r, rfl, hh, hE⟩ | ⟨h1, h2, hh, hE⟩ | ⟨h1, h2, hh, hE⟩
  · rw [srt_all]; simp
  all_goals rw [hE]; simp [fldF_len]
  omega
end Go.Proofs.Ytmljljpldljpjaa.Kk

/-
  Whether a pattern takes a path, a method; PathsTakes: the walk.
-/
namespace Go.Proofs.Ytmljljpldljpjaa.Kk
open Go.RowKit
set_option linter.unusedVariables false
set_option linter.unusedSimpArgs false
set_option maxRecDepth 100000
def begF (a s : List UInt8) : Bool := starB a && Lib.hasPrefix s (starT a)
def pathM (a s : List UInt8) : Bool := ppB a && pathB s && ((a == s) || begF a s)
def methM (a s : List UInt8) : Bool := methB s && ((a == [42]) || (a == s))
theorem isBegun_any (a s : List UInt8) (w : World) (h1 : a.length ≤ 2 ^ 62) : Calls Try.prog 95 #[.string ⟨a.toArray⟩, .string ⟨s.toArray⟩] w fun e w' => e = .returned (.bool (begF a s)) ∧ w' = w := by
  have hC : Calls Try.prog 99 #[.string ⟨a.toArray⟩, .string ⟨#[42]⟩] w fun e w' => e = .returned (.tuple #[.string ⟨(starT a).toArray⟩, .bool (starB a)]) ∧ w' = w :=
    Try.strings_CutSuffix ⟨a.toArray⟩ ⟨#[42]⟩ w (by show a.length ≤ _; omega)
  have hP : Calls Try.prog 100 #[.string ⟨s.toArray⟩, .string ⟨(starT a).toArray⟩] w fun e w' => e = .returned (.bool (Lib.hasPrefix s (starT a))) ∧ w' = w := Try.strings_HasPrefix ⟨s.toArray⟩ ⟨(starT a).toArray⟩ w
  have hE : begF a s = (starB a && Lib.hasPrefix s (starT a)) := rfl
  generalize starT a = t at hC hP hE
  generalize Lib.hasPrefix s t = c at hP hE
  cases hb : starB a with
  | true =>
    rw [hb] at hC hE
    have HE := hide2 hE
    clear hE hb
    go_enter Try.func95, Try.ntmps95
    go_wp2_with fail
    refine hC.mono ?_
    rintro e w1 ⟨rfl, hw⟩
    have hw := hw.symm
    subst hw
    go_wp2_with fail
    refine hP.mono ?_
    rintro e w1 ⟨rfl, hw⟩
    have hw := hw.symm
    subst hw
    go_wp2
    go_ret
    exact ⟨ret_bool (by rw [HE.out]; rfl), rfl⟩
  | false =>
    rw [hb] at hC hE
    have HE := hide2 hE
    clear hE hb
    go_enter Try.func95, Try.ntmps95
    go_wp2_with fail
    refine hC.mono ?_
    rintro e w1 ⟨rfl, hw⟩
    have hw := hw.symm
    subst hw
    go_wp2
    go_ret
    exact ⟨ret_bool (by rw [HE.out]; rfl), rfl⟩
theorem pathM_ref (a s : List UInt8) : (ppB a && pathB s && ((starB a && Lib.hasPrefix s (starT a)) || (!starB a && (s == starT a)))) = pathM a s := by
  unfold pathM begF
  congr 1
  cases h : starB a with
  | false =>
    rw [starT_no h]
    simp [Bool.beq_comm]
  | true =>
    by_cases he : a = s
    · subst he
      have : Lib.hasPrefix a (starT a) = true := by
        rw [pre_iff, starT_yes h]
        exact List.take_prefix _ _
      simp [this]
    · simp [he]
end Go.Proofs.Ytmljljpldljpjaa.Kk

/-
  Whether a pattern of hosts covers another one; how two of them stand.
-/
namespace Go.Proofs.Ytmljljpldljpjaa.Kk
open Go.RowKit
set_option linter.unusedVariables false
set_option linter.unusedSimpArgs false
set_option maxRecDepth 100000
/-- covers, of two sorted patterns -/
def covF (p q : Int × List UInt8) : Bool := !(p.1 == 3) && !(q.1 == 3) && ((p.1 == 2) || (p == q) || ((p.1 == 1) && belF q.2 p.2))
theorem two_alloc {w : World} (o1 o2 : Obj) : Below w.heap.size w ((w.alloc o1).alloc o2) := ((Below.refl _ w).alloc (Nat.le_refl _) _).alloc (by simp) _
theorem orInt_any (a b c : Int) (w : World) (g : Nat) (h0 : w.cell? ⟨g, 0, none⟩ = some (.int .i64 a)) (h1 : w.cell? ⟨g, 1, none⟩ = some (.int .i64 b)) (h2 : w.cell? ⟨g, 2, none⟩ = some (.int .i64 c)) :
    Calls Try.prog 59 #[.slice (some ⟨g, 0, none⟩) 3 3] w fun e w' => e = .returned (.int .i64 (if a = 0 then if b = 0 then c else b else a)) ∧ w' = w := by
  by_cases ha : a = 0
  · subst ha
    by_cases hb : b = 0
    · subst hb
      by_cases hc : c = 0
      · subst hc
        go_enter Try.func59, Try.ntmps59
        go_wp2
        refine wp_loop_rounds 4 ?_
        iterate 4 (rw [rounds_succ]; go_wp2)
        go_ret
        exact ⟨rfl, rfl⟩
      · have hc' : (c == 0) = false := by simpa using hc
        go_enter Try.func59, Try.ntmps59
        go_wp2
        refine wp_loop_rounds 4 ?_
        iterate 3 (rw [rounds_succ]; go_wp2)
        go_ret
        exact ⟨ret_int (by simp), rfl⟩
    · have hb' : (b == 0) = false := by simpa using hb
      go_enter Try.func59, Try.ntmps59
      go_wp2
      refine wp_loop_rounds 4 ?_
      iterate 2 (rw [rounds_succ]; go_wp2)
      go_ret
      exact ⟨ret_int (by simp [hb]), rfl⟩
  · have ha' : (a == 0) = false := by simpa using ha
    go_enter Try.func59, Try.ntmps59
    go_wp2
    refine wp_loop_rounds 4 ?_
    rw [rounds_succ]
    go_wp2
    go_ret
    exact ⟨ret_int (by simp [ha]), rfl⟩
/-- how two sorted patterns stand -/
def cmpF (p q : Int × List UInt8) : Int :=
  let a := Lib.compareInt p.1 q.1
  let b := if p.1 = 1 then Lib.compareInt q.2.length p.2.length else 0
  if a = 0 then if b = 0 then Lib.compareBytes p.2 q.2 else b else a
end Go.Proofs.Ytmljljpldljpjaa.Kk

/-
  How two patterns of hosts stand: compare.
-/
namespace Go.Proofs.Ytmljljpldljpjaa.Kk
open Go.RowKit
set_option linter.unusedVariables false
set_option linter.unusedSimpArgs false
set_option maxRecDepth 100000
theorem Two.drewN {w w1 : World} {a0 a1 b0 b1 : Value} (h : Two w w1 a0 a1 b0 b1) (q : Nat) : Two w (w1.drewN q) a0 a1 b0 b1 :=
  ⟨h.c0, h.c1, h.d0, h.d1, h.f0, h.f1, h.g0, h.g1, below_drewN h.below q⟩
theorem new3 (W : World) (x y z : Value) (k : Nat) (v : Value) (h : [x, y, z][k]? = some v) : (W.alloc (.cells #[x, y, z] 3 (0, 0))).cell? ⟨W.heap.size, k, none⟩ = some v := by
  have := World.news_of_block (heap_alloc_new W (.cells #[x, y, z] 3 (0, 0))) k v (by simpa using h)
  rwa [Go.WideShapes.add_plain, Nat.zero_add] at this
end Go.Proofs.Ytmljljpldljpjaa.Kk

/-
  Which pattern covers which, and how two of hosts stand: the program's.
-/
namespace Go.Proofs.Ytmljljpldljpjaa.Kk
open Go.RowKit
set_option linter.unusedVariables false
set_option linter.unusedSimpArgs false
set_option maxRecDepth 100000
def covM (a b : List UInt8) : Bool := covF (srtF a) (srtF b)
def ordM (a b : List UInt8) : Int := cmpF (srtF a) (srtF b)
def cpM (a b : List UInt8) : Bool := ppB a && ppB b && ((a == b) || begF a (starT b))
def cmM (a b : List UInt8) : Bool := mpB b && ((a == [42]) || (a == b))
theorem coversPath_any (a b : List UInt8) (w : World) (h1 : a.length ≤ 2 ^ 62) (h2 : b.length ≤ 2 ^ 62) : Calls Try.prog 88 #[.string ⟨a.toArray⟩, .string ⟨b.toArray⟩] w fun e w' => e = .returned (.bool (cpM a b)) ∧ w' = w := by
  have hP := pathPattern_any a w h1
  have hQ := pathPattern_any b w h2
  have hT := trim_star b w h2
  have hB := isBegun_any a (starT b) w h1
  have hE : cpM a b = (ppB a && ppB b && ((a == b) || begF a (starT b))) := rfl
  by_cases hab : a = b
  · subst hab
    have hE2 : cpM a a = ppB a := by simp [cpM]
    generalize ppB a = b1 at hP hE2
    have HE := hide2 hE2
    clear hE hE2 hQ
    cases b1
    all_goals
      go_enter Try.func88, Try.ntmps88
      go_wp2_with (first | (go_at_call 94; refine hP.mono ?_; rintro e w1 ⟨rfl, hw⟩; have hw := hw.symm; subst hw))
      go_ret
      exact ⟨ret_bool HE.out.symm, rfl⟩
  · have hq : (a == b) = false := by simpa using hab
    generalize ppB a = b1 at hP hE
    generalize ppB b = b2 at hQ hE
    generalize begF a (starT b) = b3 at hB hE
    generalize starT b = t at hT hB
    rw [hq] at hE
    have HE := hide2 hE
    have HAB := hide2 hab
    clear hE hab
    cases b1 with
    | false =>
      go_enter Try.func88, Try.ntmps88
      go_wp2_with fail
      refine hP.mono ?_; rintro e w1 ⟨rfl, hw⟩; have hw := hw.symm; subst hw
      go_wp2
      go_ret
      exact ⟨ret_bool HE.out.symm, rfl⟩
    | true =>
      cases b2 with
      | false =>
        go_enter Try.func88, Try.ntmps88
        go_wp2_with fail
        refine hP.mono ?_; rintro e w1 ⟨rfl, hw⟩; have hw := hw.symm; subst hw
        go_wp2_with fail
        refine hQ.mono ?_; rintro e w1 ⟨rfl, hw⟩; have hw := hw.symm; subst hw
        go_wp2
        go_ret
        exact ⟨ret_bool HE.out.symm, rfl⟩
      | true =>
        go_enter Try.func88, Try.ntmps88
        go_wp2_with fail
        refine hP.mono ?_; rintro e w1 ⟨rfl, hw⟩; have hw := hw.symm; subst hw
        go_wp2_with fail
        refine hQ.mono ?_; rintro e w1 ⟨rfl, hw⟩; have hw := hw.symm; subst hw
        go_wp2_with fail
        refine hT.mono ?_; rintro e w1 ⟨rfl, hw⟩; have hw := hw.symm; subst hw
        go_wp2_with fail
        refine hB.mono ?_; rintro e w1 ⟨rfl, hw⟩; have hw := hw.symm; subst hw
        go_wp2
        go_ret
        exact ⟨ret_bool (by rw [HE.out]; rfl), rfl⟩
end Go.Proofs.Ytmljljpldljpjaa.Kk

/-
  Which pattern covers which, and how two of hosts stand: the document's.
-/
namespace Go.Proofs.Ytmljljpldljpjaa.Kk
open Go.RowKit
set_option linter.unusedVariables false
set_option linter.unusedSimpArgs false
set_option maxRecDepth 100000
theorem cb_step {l u : List UInt8} {k : Nat} (h1 : k < l.length) (h2 : k < u.length) : Lib.compareBytes (l.drop k) (u.drop k) = if (l[k].toNat : Int) < u[k].toNat then -1 else if (u[k].toNat : Int) < l[k].toNat then 1 else Lib.compareBytes (l.drop (k + 1)) (u.drop (k + 1)) := by
  rw [List.drop_eq_getElem_cons h1, List.drop_eq_getElem_cons h2, Lib.compareBytes]
  have e1 : ∀ a b : UInt8, (a < b) = ((a.toNat : Int) < b.toNat) := fun a b => by simp [UInt8.lt_iff_toNat_lt]
  simp only [e1]
theorem below_of {w w' : World} {q : Nat} (h : w' = w.drewN q) : Below w.heap.size w w' := by rw [h]; exact below_drewN (Below.refl _ _) q
theorem cI_lt {x y : Int} (h : x < y) : Lib.compareInt x y = -1 := by unfold Lib.compareInt; rw [if_pos h]
theorem cI_gt {x y : Int} (h : y < x) : Lib.compareInt x y = 1 := by unfold Lib.compareInt; rw [if_neg (by omega), if_pos h]
theorem cI_eq (x : Int) : Lib.compareInt x x = 0 := by unfold Lib.compareInt; rw [if_neg (by omega), if_neg (by omega)]
end Go.Proofs.Ytmljljpldljpjaa.Kk

/-
  Which pattern covers which: the document's; PathsCovers: the walk.
-/
namespace Go.Proofs.Ytmljljpldljpjaa.Kk
open Go.RowKit
set_option linter.unusedVariables false
set_option linter.unusedSimpArgs false
set_option maxRecDepth 100000
theorem srt_two (l : List UInt8) (h : (srtF l).1 = 2) : (srtF l).2 = [] := by
  rcases srt_cases l with rfl | ⟨r, rfl, hh, hE⟩ | ⟨r, rfl, hh, hE⟩ | ⟨h1, h2, hh, hE⟩ | ⟨h1, h2, hh, hE⟩
  · rw [srt_all]
  all_goals rw [hE] at h; simp at h
theorem suf_nil (x : UInt8) (t : List UInt8) : Lib.hasSuffix [] (x :: t) = false := by
  rw [← Bool.not_eq_true, suf_iff]
  intro h
  have := h.length_le
  simp at this
theorem cov00 (t u : List UInt8) : (t == u) = covF (0, t) (0, u) := by
  have e : (((0 : Int), t) == ((0 : Int), u)) = (t == u) := by
    show (((0 : Int) == 0) && (t == u)) = _
    simp
  unfold covF
  rw [e]
  cases (t == u) <;> rfl
theorem rcoversPath_any (a b : List UInt8) (w : World) (h1 : a.length ≤ 2 ^ 62) (h2 : b.length ≤ 2 ^ 62) : Calls Try.prog 35 #[.string ⟨a.toArray⟩, .string ⟨b.toArray⟩] w fun e w' => e = .returned (.bool (cpM a b)) ∧ w' = w := by
  have hP := rpathPattern_any a w h1
  have hQ := rpathPattern_any b w h2
  have hS := star_any a w h1
  have hT := star_any b w h2
  have hN := begins_any (starT b) (starT a) w (Nat.le_trans (starT_len b) h2) (Nat.le_trans (starT_len a) h1)
  have hE : cpM a b = (ppB a && ppB b && ((a == b) || (starB a && Lib.hasPrefix (starT b) (starT a)))) := rfl
  by_cases hab : a = b
  · subst hab
    have hE2 : cpM a a = ppB a := by simp [cpM]
    generalize ppB a = b1 at hP hE2
    generalize starT a = t at hS hN
    generalize starB a = c at hS
    have HE := hide2 hE2
    clear hE hE2 hQ hT
    cases b1
    all_goals
      go_enter Try.func35, Try.ntmps35
      go_wp2_with (first | (go_at_call 53; refine hP.mono ?_; rintro e w1 ⟨rfl, hw⟩; have hw := hw.symm; subst hw) | (go_at_call 54; refine hS.mono ?_; rintro e w1 ⟨rfl, hw⟩; have hw := hw.symm; subst hw))
      go_ret
      exact ⟨ret_bool HE.out.symm, rfl⟩
  · have hq : (a == b) = false := by simpa using hab
    generalize ppB a = b1 at hP hE
    generalize ppB b = b2 at hQ hE
    generalize starT a = t at hS hN hE
    generalize starT b = u at hT hN hE
    generalize starB a = c at hS hE
    generalize starB b = d at hT
    generalize Lib.hasPrefix u t = b3 at hN hE
    rw [hq] at hE
    have HE := hide2 hE
    have HAB := hide2 hab
    clear hE hab
    cases b1 with
    | false =>
      go_enter Try.func35, Try.ntmps35
      go_wp2_with fail
      refine hP.mono ?_; rintro e w1 ⟨rfl, hw⟩; have hw := hw.symm; subst hw
      go_wp2
      go_ret
      exact ⟨ret_bool HE.out.symm, rfl⟩
    | true =>
      cases b2 with
      | false =>
        go_enter Try.func35, Try.ntmps35
        go_wp2_with fail
        refine hP.mono ?_; rintro e w1 ⟨rfl, hw⟩; have hw := hw.symm; subst hw
        go_wp2_with fail
        refine hQ.mono ?_; rintro e w1 ⟨rfl, hw⟩; have hw := hw.symm; subst hw
        go_wp2
        go_ret
        exact ⟨ret_bool HE.out.symm, rfl⟩
      | true =>
        cases c with
        | false =>
          go_enter Try.func35, Try.ntmps35
          go_wp2_with fail
          refine hP.mono ?_; rintro e w1 ⟨rfl, hw⟩; have hw := hw.symm; subst hw
          go_wp2_with fail
          refine hQ.mono ?_; rintro e w1 ⟨rfl, hw⟩; have hw := hw.symm; subst hw
          go_wp2_with fail
          refine hS.mono ?_; rintro e w1 ⟨rfl, hw⟩; have hw := hw.symm; subst hw
          go_wp2_with fail
          refine hT.mono ?_; rintro e w1 ⟨rfl, hw⟩; have hw := hw.symm; subst hw
          go_wp2
          go_ret
          exact ⟨ret_bool (by rw [HE.out]; rfl), rfl⟩
        | true =>
          go_enter Try.func35, Try.ntmps35
          go_wp2_with fail
          refine hP.mono ?_; rintro e w1 ⟨rfl, hw⟩; have hw := hw.symm; subst hw
          go_wp2_with fail
          refine hQ.mono ?_; rintro e w1 ⟨rfl, hw⟩; have hw := hw.symm; subst hw
          go_wp2_with fail
          refine hS.mono ?_; rintro e w1 ⟨rfl, hw⟩; have hw := hw.symm; subst hw
          go_wp2_with fail
          refine hT.mono ?_; rintro e w1 ⟨rfl, hw⟩; have hw := hw.symm; subst hw
          go_wp2_with fail
          refine hN.mono ?_; rintro e w1 ⟨rfl, hw⟩; have hw := hw.symm; subst hw
          go_wp2
          go_ret
          exact ⟨ret_bool (by rw [HE.out]; rfl), rfl⟩
theorem cmM_ref (a b : List UInt8) : (mpB a && mpB b && ((a == [42]) || (a == b))) = cmM a b := by
  unfold cmM
  by_cases h1 : a = [42]
  · subst h1
    simp [mpB]
  · by_cases h2 : a = b
    · subst h2; simp
    · rw [show (a == [42]) = false by simpa using h1, show (a == b) = false by simpa using h2]; simp
end Go.Proofs.Ytmljljpldljpjaa.Kk
