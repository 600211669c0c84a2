/-
  The walk of SumParts.
-/
import Derived.Test.YteeclghhoioapaaDoorAwake
import Derived.Deep.DrawnRows
import Derived.Deep.RegionWith
namespace Go.Proofs.YteeclghhoioapaaDoor
set_option maxRecDepth 4000
open Go.RowKit
set_option linter.unusedVariables false
attribute [local go_sem ↓] Go.wp_at_zero Go.wp_at_succ

/-- A slice of bytes that is there. -/
structure Bs (W : World) (a : Option Addr) (n cap : Nat) (zs : List Int) : Prop where
  len : zs.length = n
  has : Has W a zs
  oct : Octets zs
  bare : a = none → cap = 0
  fits : n ≤ cap
  cap : cap ≤ maxLen
  small : n ≤ 140737488355328
theorem Bs.below {w W : World} {a : Option Addr} {n cap : Nat} {zs : List Int} (h : Bs w a n cap zs) (hb : Below w.heap.size w W) : Bs W a n cap zs := ⟨h.len, h.has.of_below hb, h.oct, h.bare, h.fits, h.cap, h.small⟩

/-- Bits of a 32-bit number. -/
def U32 (c : Int) : Prop := 0 ≤ c ∧ c < 4294967296

theorem Bs.nil (w : World) : Bs w none 0 0 [] := ⟨rfl, .inl ⟨rfl, rfl⟩, Octets.nil, fun _ => rfl, Nat.le_refl _, by decide, by decide⟩
theorem add_add (x : Addr) (k j : Nat) : (x.add k).add j = x.add (k + j) := by
  unfold Addr.add
  by_cases hk : k = 0 <;> by_cases hj : j = 0 <;> simp [hk, hj, Nat.add_assoc]
theorem Bs.front {w : World} {x : Addr} {n cap : Nat} {zs : List Int} (h : Bs w (some x) n cap zs) (k : Nat) (hk : k ≤ n) : Bs w (some x) k cap (zs.take k) := by
  have := h.len; have := h.fits; have := h.small
  refine ⟨by simp; omega, ?_, h.oct.take k, (fun h => by cases h), by omega, h.cap, by omega⟩
  rcases h.has with ⟨h, _⟩ | ⟨y, hy, hB⟩
  · cases h
  · refine .inr ⟨y, hy, fun j hj => ?_⟩
    have hj' : j < k := by simp at hj; omega
    rw [hB j (by omega)]; simp [List.getD, hj']
theorem Bs.back {w : World} {x : Addr} {n cap : Nat} {zs : List Int} (h : Bs w (some x) n cap zs) (k : Nat) (hk : k ≤ n) : Bs w (some (x.add k)) (n - k) (cap - k) (zs.drop k) := by
  have := h.len; have := h.fits; have := h.small; have := h.cap
  refine ⟨by simp; omega, ?_, h.oct.drop k, (fun h => by cases h), by omega, by omega, by omega⟩
  rcases h.has with ⟨h, _⟩ | ⟨y, hy, hB⟩
  · cases h
  · cases hy
    refine .inr ⟨_, rfl, fun j hj => ?_⟩
    rw [add_add, hB (k + j) (by simp at hj; omega)]; simp [List.getD]
theorem parts_facts (A B zs : List Int) (c : Int) (h : A ++ B = zs) (hA : Octets A) (hc : U32 c) : moreF (moreF 0 A) B = moreF 0 zs ∧ moreF (moreF c A) B = moreF c zs ∧ moreF c [] = c ∧ U32 (moreF 0 A) ∧ U32 (moreF c A) := by
  subst h
  exact ⟨moreF_append 0 A B hA (by decide) (by decide), moreF_append c A B hA hc.1 hc.2, moreF_nil c hc.1 hc.2, moreF_bd 0 A hA (by decide) (by decide), moreF_bd c A hA hc.1 hc.2⟩

theorem lent_rel (w W : World) (a : Option Addr) (n cap : Nat) (zs : List Int) (hW : Below w.heap.size w W) (h : Bs w a n cap zs) (hl : n ≤ 140737488351232) :
    Calls Tryd.prog 12 #[.slice a n cap] W fun e w' => ∃ g cp, e = .returned (.slice (some ⟨g, 0, none⟩) n cp) ∧ Bs w' (some ⟨g, 0, none⟩) n cp zs ∧ Below w.heap.size w w' := by
  refine (lent_any a n cap zs W h.len (h.has.of_below hW) h.bare hl).mono ?_
  rintro e w' ⟨v, rfl, g, cp, rfl, hown, hb⟩
  have hc := own_cap hown
  have hn := h.len
  rw [hn]
  refine ⟨g, cp, rfl, ⟨hn, ?_, h.oct, (fun h => by cases h), by omega, hc.2, h.small⟩, hW.trans (hb.mono hW.size)⟩
  rcases own_has hown with ⟨h, _⟩ | ⟨x, hx, hB⟩
  · cases h
  · refine .inr ⟨x, hx, fun j hj => ?_⟩
    rw [hB j (by simp; omega)]
    simp [List.getD, List.getElem?_append_left hj]
theorem crc_rel (w W : World) (a : Option Addr) (n cap : Nat) (zs : List Int) (hW : Below w.heap.size w W) (hT : Tab w) (h : Bs W a n cap zs) :
    Calls Tryd.prog 55 #[.slice a n cap] W fun e w' => e = .returned (.int .u32 (moreF 0 zs)) ∧ w' = W :=
  crc_has a n cap zs W h.len h.has h.oct (hT.below hW hT.pos) h.small
theorem more_rel (w W : World) (c : Int) (a : Option Addr) (n cap : Nat) (zs : List Int) (hW : Below w.heap.size w W) (hT : Tab w) (hc : U32 c) (h : Bs W a n cap zs) :
    Calls Tryd.prog 54 #[.int .u32 c, .slice a n cap] W fun e w' => e = .returned (.int .u32 (moreF c zs)) ∧ w' = W :=
  more_has c a n cap zs W h.len h.has h.oct (hT.below hW hT.pos) hc.1 hc.2 h.small

end Go.Proofs.YteeclghhoioapaaDoor
