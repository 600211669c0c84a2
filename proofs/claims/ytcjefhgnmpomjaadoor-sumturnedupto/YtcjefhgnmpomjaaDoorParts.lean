/-
  The walk of SumParts.
-/
import Derived.Test.YtcjefhgnmpomjaaDoorAwake
import Derived.Deep.DrawnRows
import Derived.Deep.RegionWith
namespace Go.Proofs.YtcjefhgnmpomjaaDoor
open Go.RowKit
set_option linter.unusedVariables false
attribute [local go_sem ↓] Go.wp_at_zero Go.wp_at_succ

/-- A slice of bytes that is there. -/
structure Bs (W : World) (a : Option Addr) (n cap : Nat) (zs : List Int) : Prop where
  len : zs.length = n
  has : Has W a zs
  oct : Octets zs
  bare : a = none → cap = 0
  fits : n ≤ cap
  cap : cap ≤ maxLen
  small : n ≤ 140737488355328
theorem Bs.below {w W : World} {a : Option Addr} {n cap : Nat} {zs : List Int} (h : Bs w a n cap zs) (hb : Below w.heap.size w W) : Bs W a n cap zs := ⟨h.len, h.has.of_below hb, h.oct, h.bare, h.fits, h.cap, h.small⟩

/-- Bits of a 32-bit number. -/
def U32 (c : Int) : Prop := 0 ≤ c ∧ c < 4294967296

theorem Bs.nil (w : World) : Bs w none 0 0 [] := ⟨rfl, .inl ⟨rfl, rfl⟩, Octets.nil, fun _ => rfl, Nat.le_refl _, by decide, by decide⟩
theorem add_add (x : Addr) (k j : Nat) : (x.add k).add j = x.add (k + j) := by
  unfold Addr.add
  by_cases hk : k = 0 <;> by_cases hj : j = 0 <;> simp [hk, hj, Nat.add_assoc]
theorem Bs.front {w : World} {x : Addr} {n cap : Nat} {zs : List Int} (h : Bs w (some x) n cap zs) (k : Nat) (hk : k ≤ n) : Bs w (some x) k cap (zs.take k) := by
  have := h.len; have := h.fits; have := h.small
  refine ⟨by simp; omega, ?_, h.oct.take k, (fun h => by cases h), by omega, h.cap, by omega⟩
  rcases h.has with ⟨h, _⟩ | ⟨y, hy, hB⟩
  · cases h
  · refine .inr ⟨y, hy, fun j hj => ?_⟩
    have hj' : j < k := by simp at hj; omega
    rw [hB j (by omega)]; simp [List.getD, hj']
theorem Bs.back {w : World} {x : Addr} {n cap : Nat} {zs : List Int} (h : Bs w (some x) n cap zs) (k : Nat) (hk : k ≤ n) : Bs w (some (x.add k)) (n - k) (cap - k) (zs.drop k) := by
  have := h.len; have := h.fits; have := h.small; have := h.cap
  refine ⟨by simp; omega, ?_, h.oct.drop k, (fun h => by cases h), by omega, by omega, by omega⟩
  rcases h.has with ⟨h, _⟩ | ⟨y, hy, hB⟩
  · cases h
  · cases hy
    refine .inr ⟨_, rfl, fun j hj => ?_⟩
    rw [add_add, hB (k + j) (by simp at hj; omega)]; simp [List.getD]
theorem parts_facts (A B zs : List Int) (c : Int) (h : A ++ B = zs) (hA : Octets A) (hc : U32 c) : moreF (moreF 0 A) B = moreF 0 zs ∧ moreF (moreF c A) B = moreF c zs ∧ moreF c [] = c ∧ U32 (moreF 0 A) ∧ U32 (moreF c A) := by
  subst h
  exact ⟨moreF_append 0 A B hA (by decide) (by decide), moreF_append c A B hA hc.1 hc.2, moreF_nil c hc.1 hc.2, moreF_bd 0 A hA (by decide) (by decide), moreF_bd c A hA hc.1 hc.2⟩

theorem lent_rel (w W : World) (a : Option Addr) (n cap : Nat) (zs : List Int) (hW : Below w.heap.size w W) (h : Bs w a n cap zs) (hl : n ≤ 140737488351232) :
    Calls Tryd.prog 9 #[.slice a n cap] W fun e w' => ∃ g cp, e = .returned (.slice (some ⟨g, 0, none⟩) n cp) ∧ Bs w' (some ⟨g, 0, none⟩) n cp zs ∧ Below w.heap.size w w' := by
  refine (lent_any a n cap zs W h.len (h.has.of_below hW) h.bare hl).mono ?_
  rintro e w' ⟨v, rfl, g, cp, rfl, hown, hb⟩
  have hc := own_cap hown
  have hn := h.len
  rw [hn]
  refine ⟨g, cp, rfl, ⟨hn, ?_, h.oct, (fun h => by cases h), by omega, hc.2, h.small⟩, hW.trans (hb.mono hW.size)⟩
  rcases own_has hown with ⟨h, _⟩ | ⟨x, hx, hB⟩
  · cases h
  · refine .inr ⟨x, hx, fun j hj => ?_⟩
    rw [hB j (by simp; omega)]
    simp [List.getD, List.getElem?_append_left hj]
theorem crc_rel (w W : World) (a : Option Addr) (n cap : Nat) (zs : List Int) (hW : Below w.heap.size w W) (hT : Tab w) (h : Bs W a n cap zs) :
    Calls Tryd.prog 12 #[.slice a n cap] W fun e w' => e = .returned (.int .u32 (moreF 0 zs)) ∧ w' = W :=
  crc_has a n cap zs W h.len h.has h.oct (hT.below hW hT.pos) h.small
theorem more_rel (w W : World) (c : Int) (a : Option Addr) (n cap : Nat) (zs : List Int) (hW : Below w.heap.size w W) (hT : Tab w) (hc : U32 c) (h : Bs W a n cap zs) :
    Calls Tryd.prog 14 #[.int .u32 c, .slice a n cap] W fun e w' => e = .returned (.int .u32 (moreF c zs)) ∧ w' = W :=
  more_has c a n cap zs W h.len h.has h.oct (hT.below hW hT.pos) hc.1 hc.2 h.small

set_option maxHeartbeats 2000000 in
theorem parts_add (x : Addr) (n cap : Nat) (c : Int) (zs : List Int) (w : World) (hP : Bs w (some x) n cap zs) (hT : Tab w) (hl : cap ≤ 140737488351232)
    (hc0 : 0 ≤ c) (hc1 : c < 4294967296) (q : Int) (hq0 : -9223372036854775808 ≤ q) (hq1 : q ≤ 9223372036854775807) :
    Calls Tryd.prog 8 #[.slice (some x) n cap, .int .i64 q, .int .u32 c] w fun e w' => e = .returned (.bool true) ∧ Below w.heap.size w w' := by
  have hcap := hP.fits
  go_enter Tryd.func8, Tryd.ntmps8
  go_wp2_with fail
  refine (awake_any _ hT).mono ?_
  rintro e w1 ⟨rfl, hb1⟩
  go_wp2_with fail
  have ee : ((n : Int) + 1) = ((n + 1 : Nat) : Int) := by omega
  rw [ee]; clear ee
  refine (round_any q (n + 1) _ (by omega) (by omega) hq0 hq1).mono ?_
  rintro e w2 ⟨k, hk, rfl, hw2⟩
  subst hw2
  have k0 : (0 : Int) ≤ k := by omega
  have k1 : (k : Int) ≤ n := by omega
  have k2 : (k : Int) ≤ cap := by omega
  have k3 : (n : Int) ≤ cap := by omega
  have U0 : U32 c := ⟨hc0, hc1⟩
  have HN : Hid (Bs w none 0 0 []) := Bs.nil w
  by_cases hkc : cap = k
  · obtain rfl : n = k := by omega
    subst hkc
    have hoct := hP.oct
    obtain ⟨E1, E2, E3, U1, U2⟩ := parts_facts zs [] zs c (by simp) hoct U0
    have BB : Bs w (some x) 0 0 [] := ⟨rfl, .inr ⟨x, rfl, fun j hj => by simp at hj⟩, Octets.nil, (fun h => by cases h), Nat.le_refl _, by decide, by decide⟩
    go_wp2_with fail
    go_region_held3 (fun w' => Below w.heap.size w w') (first | assumption | (apply Below.drew; assumption))
      (first
        | (go_at_call_of 9 (Value.slice (some x) 0 0); refine (lent_rel w _ (some x) 0 0 [] (by assumption) BB (by omega)).mono ?_; rintro e w' ⟨g, cp, rfl, hBs, hbel⟩)
        | (go_at_call 9; refine (lent_rel w _ _ _ _ zs (by assumption) hP (by omega)).mono ?_; rintro e w' ⟨g, cp, rfl, hBs, hbel⟩)
        | (go_at_call 12; refine (crc_rel w _ _ _ _ _ (by assumption) hT (by assumption)).mono ?_; rintro e w' ⟨rfl, rfl⟩)
        | (go_at_call_of 14 (Value.slice none 0 0); refine (more_rel w _ _ none 0 0 [] (by assumption) hT U0 (HN.out.below (by assumption))).mono ?_; rintro e w' ⟨rfl, rfl⟩)
        | (go_at_call 14; refine (more_rel w _ _ _ _ _ _ (by assumption) hT (by assumption) (by assumption)).mono ?_; rintro e w' ⟨rfl, rfl⟩))
    go_wp2
    go_ret
    exact ⟨rfl, by assumption⟩
  · have hoct := hP.oct
    have BA : Bs w (some x) k cap (zs.take k) := hP.front k (by omega)
    have BB : Bs w (some (x.add k)) (n - k) (cap - k) (zs.drop k) := hP.back k (by omega)
    obtain ⟨E1, E2, E3, U1, U2⟩ := parts_facts (zs.take k) (zs.drop k) zs c (List.take_append_drop k zs) (hoct.take k) U0
    obtain ⟨A, hA⟩ : ∃ A, zs.take k = A := ⟨_, rfl⟩
    obtain ⟨B, hB⟩ : ∃ B, zs.drop k = B := ⟨_, rfl⟩
    rw [hA] at BA E1 E2 U1 U2
    rw [hB] at BB E1 E2
    clear hA hB
    go_wp2_with fail
    go_region_held3 (fun w' => Below w.heap.size w w') (first | assumption | (apply Below.drew; assumption))
      (first
        | (go_at_call_of 9 (Value.slice (some x) k cap); refine (lent_rel w _ (some x) k cap A (by assumption) BA (by omega)).mono ?_; rintro e w' ⟨g, cp, rfl, hBs, hbel⟩)
        | (go_at_call_of 9 (Value.slice (some (x.add k)) (n - k) (cap - k)); refine (lent_rel w _ (some (x.add k)) (n - k) (cap - k) B (by assumption) BB (by omega)).mono ?_; rintro e w' ⟨g, cp, rfl, hBs, hbel⟩)
        | (go_at_call_of 9 (Value.slice (some x) n cap); refine (lent_rel w _ (some x) n cap zs (by assumption) hP (by omega)).mono ?_; rintro e w' ⟨g, cp, rfl, hBs, hbel⟩)
        | (go_at_call 12; refine (crc_rel w _ _ _ _ _ (by assumption) hT (by assumption)).mono ?_; rintro e w' ⟨rfl, rfl⟩)
        | (go_at_call_of 14 (Value.slice none 0 0); refine (more_rel w _ _ none 0 0 [] (by assumption) hT U0 (HN.out.below (by assumption))).mono ?_; rintro e w' ⟨rfl, rfl⟩)
        | (go_at_call 14; refine (more_rel w _ _ _ _ _ _ (by assumption) hT (by assumption) (by assumption)).mono ?_; rintro e w' ⟨rfl, rfl⟩))
    go_wp2
    go_ret
    exact ⟨rfl, by assumption⟩

set_option maxHeartbeats 2000000 in
theorem parts_nil (c : Int) (w : World) (hT : Tab w)
    (hc0 : 0 ≤ c) (hc1 : c < 4294967296) (q : Int) (hq0 : -9223372036854775808 ≤ q) (hq1 : q ≤ 9223372036854775807) :
    Calls Tryd.prog 8 #[.slice none 0 0, .int .i64 q, .int .u32 c] w fun e w' => e = .returned (.bool true) ∧ Below w.heap.size w w' := by
  have U0 : U32 c := ⟨hc0, hc1⟩
  have HN : Hid (Bs w none 0 0 []) := Bs.nil w
  obtain ⟨E1, E2, E3, U1, U2⟩ := parts_facts [] [] [] c rfl Octets.nil U0
  go_enter Tryd.func8, Tryd.ntmps8
  go_wp2_with fail
  refine (awake_any _ hT).mono ?_
  rintro e w1 ⟨rfl, hb1⟩
  go_wp2_with fail
  refine (round_any q 1 _ (by omega) (by omega) hq0 hq1).mono ?_
  rintro e w2 ⟨k, hk, rfl, hw2⟩
  subst hw2
  obtain rfl : k = 0 := by omega
  · skip
    go_wp2_with fail
    go_region_held3 (fun w' => Below w.heap.size w w') (first | assumption | (apply Below.drew; assumption))
      (first
        | (go_at_call_of 9 (Value.slice none 0 0); refine (lent_rel w _ none 0 0 [] (by assumption) HN.out (by omega)).mono ?_; rintro e w' ⟨g, cp, rfl, hBs, hbel⟩)
        | (go_at_call 12; refine (crc_rel w _ _ _ _ _ (by assumption) hT (by assumption)).mono ?_; rintro e w' ⟨rfl, rfl⟩)
        | (go_at_call_of 14 (Value.slice none 0 0); refine (more_rel w _ _ none 0 0 [] (by assumption) hT U0 (HN.out.below (by assumption))).mono ?_; rintro e w' ⟨rfl, rfl⟩)
        | (go_at_call 14; refine (more_rel w _ _ _ _ _ _ (by assumption) hT (by assumption) (by assumption)).mono ?_; rintro e w' ⟨rfl, rfl⟩))
    go_wp2
    go_ret
    exact ⟨rfl, by assumption⟩

theorem parts_any (a : Option Addr) (n cap : Nat) (c : Int) (zs : List Int) (w : World) (hP : Bs w a n cap zs) (hT : Tab w) (hl : cap ≤ 140737488351232)
    (hc0 : 0 ≤ c) (hc1 : c < 4294967296) (q : Int) (hq0 : -9223372036854775808 ≤ q) (hq1 : q ≤ 9223372036854775807) :
    Calls Tryd.prog 8 #[.slice a n cap, .int .i64 q, .int .u32 c] w fun e w' => e = .returned (.bool true) ∧ Below w.heap.size w w' := by
  cases a with
  | some x => exact parts_add x n cap c zs w hP hT hl hc0 hc1 q hq0 hq1
  | none =>
    obtain rfl := hP.bare rfl
    obtain rfl : n = 0 := by have := hP.fits; omega
    exact parts_nil c w hT hc0 hc1 q hq0 hq1
end Go.Proofs.YtcjefhgnmpomjaaDoor
