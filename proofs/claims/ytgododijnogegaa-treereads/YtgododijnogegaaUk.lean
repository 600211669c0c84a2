/-
  unlikeKeys: whether no two kids have the same key.
-/
import Derived.Test.YtgododijnogegaaNk
import Derived.Maps.OwnSet
import Derived.StringKeys
namespace Go.Proofs.Ytgododijnogegaa
open Go.RowKit
set_option linter.unusedVariables false
set_option linter.unusedSimpArgs false
set_option maxRecDepth 100000
def R0 : Value → Option (DataW Unit × List MemPlace) := fun _ => some (.nil, [])
def litK (b : ByteArray) : Lit := .string b.data.toList
theorem litK_inj {a b : ByteArray} (h : litK a = litK b) : a = b := by
  obtain ⟨x⟩ := a
  obtain ⟨y⟩ := b
  injection h with h
  exact congrArg ByteArray.mk (Array.toList_inj.1 h)
/-- the keys put into a map so far -/
structure KS (D : DataW Unit) (xs : List ByteArray) : Prop where
  tidy : Go.Maps.Tidy D
  has : ∀ b, Go.Maps.has D (litK b) = true ↔ b ∈ xs
  size : Go.Maps.size D = xs.length ↔ xs.Nodup
  le : Go.Maps.size D ≤ xs.length
theorem KS.nil : KS (.map []) [] := ⟨Go.Maps.tidy_empty, fun b => by simp [Go.Maps.has], by simp [Go.Maps.size], by simp [Go.Maps.size]⟩
theorem KS.put {D : DataW Unit} {xs : List ByteArray} (h : KS D xs) (b : ByteArray) : KS (D.put (litK b) .nil) (xs ++ [b]) := by
  have hs := Go.Maps.size_put (k := litK b) h.tidy (DataW.nil : DataW Unit)
  refine ⟨h.tidy.put (by trivial) _, fun c => ?_, ?_, ?_⟩
  · by_cases hc : c = b
    · subst hc
      have e := Go.Maps.has_put_same (k := litK c) h.tidy.isMap (by trivial) (DataW.nil : DataW Unit)
      simp [e]
    · rw [Go.Maps.has_put_other (fun e => hc (litK_inj e)), h.has]
      simp [hc]
  · rw [hs, List.length_append, List.nodup_append]
    by_cases hb : b ∈ xs
    · rw [if_pos ((h.has b).2 hb)]
      have := h.le
      constructor
      · intro e; simp at e; omega
      · rintro ⟨_, _, h3⟩; exact absurd rfl (h3 b hb b (by simp))
    · rw [if_neg (fun e => hb ((h.has b).1 e))]
      simp only [List.length_cons, List.length_nil, Nat.zero_add, Nat.add_right_cancel_iff, h.size]
      constructor
      · intro e
        refine ⟨e, by simp, fun c hc d hd => ?_⟩
        simp at hd; subst hd
        rintro rfl; exact hb hc
      · exact fun e => e.1
  · rw [hs, List.length_append]
    have := h.le
    split <;> simp <;> omega
theorem keysOf_snoc {l : List Nx} {ks : List Int} {i k : Nat} {o : Nx} (hi : ks[i]? = some (k : Int)) (hk : l[k]? = some o) : keysOf l (ks.take (i + 1)) = keysOf l (ks.take i) ++ [o.key] := by
  rw [List.take_add_one, hi, Option.toList_some]
  simp [keysOf, hk]
theorem grown_to {w wr w2 : World} {m : Nat} (h : Below w.heap.size w wr) (hg : wr.grownBy w2 (some m)) (hm : w.heap.size ≤ m) : Below w.heap.size w w2 := h.grown hg h.size (fun k hk => by cases hk; exact hm)
set_option maxHeartbeats 4000000 in
theorem unlike_any (p : Nat) (a : Option Addr) (n cap : Nat) (l : List Nx) : C42 p a n cap l := by
  intro w q dp oa on_ ocap ks hw hN hl hr ho
  have HW := hideL hw
  have HN := hideL hN
  have HL := hideL hl
  have HR := hideL hr
  clear hw hN hl hr
  have hmm := @run_makeMap Try.prog
  go_enter Try.func42, Try.ntmps42
  go_wp2_with fail
  go_loopw [11] (fun t wr => ∃ (i : Nat) (D : DataW Unit), t = .int .i64 i ∧ i ≤ on_ ∧ wr.ownsMap Try.prog 9 R0 w.heap.size i D ∧ KS D (keysOf l (ks.take i)) ∧ Below w.heap.size w wr) (fun t _ => on_ - (intOf t).toNat)
  case atStart => exact ⟨0, _, rfl, by omega, World.ownsMap_made (H := Unit) w Try.prog 9 R0, KS.nil, (Below.refl _ _).alloc (Nat.le_refl _) _⟩
  case round =>
    obtain ⟨i, D, rfl, hi, hown, hks, hbel⟩ := hrel
    have HO := hideL hown
    have HK := hideL hks
    have HB := hideL hbel
    clear hown hks hbel hmm
    have i0 : (0 : Int) ≤ i := by omega
    by_cases h2 : i < on_
    · have h2' : (i : Int) < on_ := by omega
      rcases hki : ks[i]? with _ | k
      · have := List.getElem?_eq_none_iff.1 hki; have := HL.out; omega
      obtain ⟨x, hx, hcx⟩ := (HN.out.below HB.out).at_ hki
      subst hx
      have hk := HR.out k (List.mem_of_getElem? hki)
      obtain ⟨m, rfl⟩ : ∃ m : Nat, k = m := ⟨k.toNat, by omega⟩
      rcases hop : l[m]? with _ | o
      · have := List.getElem?_eq_none_iff.1 hop; have := HW.out.len; omega
      have hw := HW.out.below HB.out
      obtain ⟨z0, z1, z2⟩ := hw.cells
      rcases hw.ns.row with hx | ⟨g, off, rfl, hc⟩
      · rw [hx] at hop; simp at hop
      have c1 := hc m _ hop 1 _ rfl
      have hsz := (hw.ns.each o (List.mem_of_getElem? hop)).s1
      have hkey := Go.WideMaps.keyOf_string_mk (P := Try.prog) Try.underlying9 hsz
      have hn := hw.small
      obtain ⟨hm0, hm1⟩ := hk
      have HS := hideL (keysOf_snoc hki hop)
      have hmx : i < maxLen := by have : (4096 : Nat) < maxLen := by decide
                                  omega
      clear hw hc hki hop hsz
      go_wp2_with (at_mapUpdate; refine wpList_mapUpdate_own _ rfl _ _ _ 96 rfl 9 97 (Go.Maps.string_keyed Try.underlying9) Try.underlying96 _ w.heap.size i D rfl HO.out hmx _ _ _ rfl rfl hkey .nil [] rfl ?_; intro w2 hown2 hgrow2; have HO2 := hideL hown2; have HG2 := hideL hgrow2; clear hown2 hgrow2)
      go_roundw
      case rel => exact ⟨i + 1, _, by go_num, by omega, HO2.out, by rw [HS.out]; exact HK.out.put _, grown_to HB.out HG2.out (Nat.le_refl _)⟩
      case measure => simp [intOf]; omega
    · have h2' : ¬ (i : Int) < on_ := by omega
      have hlen := HO.out.len Try.underlying96 3
      go_wp2
      go_ret
      refine ⟨?_, HB.out⟩
      have hT : ks.take i = ks := List.take_of_length_le (by rw [HL.out]; omega)
      have hs := HK.out.size
      rw [hT] at hs
      have hkl : (keysOf l ks).length = on_ := by simp [keysOf, HL.out]
      rw [hkl] at hs
      show Ending.returned (.bool (((Go.Maps.size D : Nat) : Int) == (on_ : Int))) = _
      congr 2
      rw [Bool.eq_iff_iff, beq_iff_eq, decide_eq_true_iff, ← hs]
      omega
end Go.Proofs.Ytgododijnogegaa
