/- Endpoints: the keys of the states, sorted, in new memory. -/
import Derived.Test.YtidpglbokpgpbaaTo
import Derived.Test.YtidpglbokpgpbaaKeys
import Derived.Maps.OwnSet
namespace Go.Proofs.Ytidpglbokpgpbaa
open Go.RowKit Go.Maps Go.Sort Go.Shelf
set_option linter.unusedVariables false
set_option linter.unusedSimpArgs false
set_option maxRecDepth 100000
theorem sorts_in (m : Nat) : AnyZ.SortsIn Try.prog Try.sorted26_ren Fence.wide m :=
  ⟨fun blk off cap ss W hH hblk hsz => callsIn_wide.2 (AnyM.slices_Sort_string Try.sort41 blk off cap ss W hH hblk hsz), fun p cap W => callsIn_wide.2 (AnyM.slices_Sort_string_none Try.sort41 p cap W)⟩
theorem keys_call (mo : Option Nat) (w : World) : Calls Try.prog 27 #[.map mo] w fun e w' => e = .returned (.func (.func 42) #[] #[.pointer (some ⟨w.heap.size, 0, none⟩)]) ∧ w' = w.alloc (.cells #[.map mo] 61) :=
  callsIn_wide.1 (AnyZ.keys_in Try.keys27 Fence.wide 5 trivial rfl mo w)
set_option maxHeartbeats 1000000 in
theorem sorted_call (m n : Nat) (D : DataW Unit) (w : World) (h : w.ownsMap Try.prog 9 Rf m n D) (hm : n ≤ 1099511627776) :
    Calls Try.prog 26 #[.func (.func 42) #[] #[.pointer (some ⟨w.heap.size, 0, none⟩)]] (w.alloc (.cells #[.map (some m)] 61)) fun e w' => ∃ (v : Value), e = .returned v ∧ w'.ownsRow w.heap.size 9 1 v (strKeys D).length (((strKeys D).mergeSort leB).map encStr) ∧ Below w.heap.size w w' := by
  have hl := h.lt
  have hsz := h.size_le
  have h1 : SeqGives Fence.wide 2 Try.prog 42 #[.pointer (some ⟨w.heap.size, 0, none⟩)] encStr (fun ss => ss.Perm (strKeys D)) (Maps.size D) (w.alloc (.cells #[.map (some m)] 61)) :=
    AnyZ.keys_gives (ρ := Try.keys27_ren) { Try.keys27 with } Fence.wide _ trivial rfl (by omega) w.heap.size m n D _ (by simp) (by simp) (by
      obtain ⟨es, clock, hb, rest⟩ := h
      exact ⟨es, clock, (Below.heap_alloc _ _ m hl).trans hb, rest⟩)
  have hmx : Maps.size D ≤ maxLen := by
    have : (1099511627776 : Nat) ≤ maxLen := by decide
    omega
  have h2 := AnyZ.sorted_in Try.sorted26 Fence.wide 5 trivial trivial trivial trivial rfl (by omega) (sorts_in _) (enters_of Try.func41 (by kernel_rfl) rfl) 42 #[.pointer (some ⟨w.heap.size, 0, none⟩)] trivial (enters_of Try.func42 (by kernel_rfl) rfl) _ _ hmx (by omega) _ h1
  refine (callsIn_wide.1 h2).mono ?_
  rintro e w' ⟨v, ss, rfl, hS, hrow, _, hb⟩
  refine ⟨v, rfl, ?_, ((Below.refl _ w).alloc (Nat.le_refl _) _).trans (hb.mono (by simp))⟩
  have e1 : ss.mergeSort (fun x y => decide (x ≤ y)) = (strKeys D).mergeSort leB := mergeSort_of_perm hS
  rw [e1, hS.length_eq] at hrow
  exact own_low' hrow (by simp)
set_option maxHeartbeats 1000000 in
theorem sorted_call_nil (w : World) :
    Calls Try.prog 26 #[.func (.func 42) #[] #[.pointer (some ⟨w.heap.size, 0, none⟩)]] (w.alloc (.cells #[.map none] 61)) fun e w' => e = .returned (.slice none 0 0) ∧ Below w.heap.size w w' := by
  have h1 : SeqGives Fence.wide 2 Try.prog 42 #[.pointer (some ⟨w.heap.size, 0, none⟩)] encStr (fun ss : List (List UInt8) => ss = []) 0 (w.alloc (.cells #[.map none] 61)) :=
    AnyZ.keys_gives_nil (ρ := Try.keys27_ren) { Try.keys27 with } Fence.wide _ trivial rfl w.heap.size _ (by simp) (by simp)
  have h2 := AnyZ.sorted_in Try.sorted26 Fence.wide 5 trivial trivial trivial trivial rfl (by omega) (sorts_in _) (enters_of Try.func41 (by kernel_rfl) rfl) 42 #[.pointer (some ⟨w.heap.size, 0, none⟩)] trivial (enters_of Try.func42 (by kernel_rfl) rfl) _ 0 (Nat.zero_le _) (by omega) _ h1
  refine (callsIn_wide.1 h2).mono ?_
  rintro e w' ⟨v, ss, rfl, hS, hrow, hn, hb⟩
  exact ⟨by rw [hn.2 hS], ((Below.refl _ w).alloc (Nat.le_refl _) _).trans (hb.mono (by simp))⟩
/-- a map's keys, in their order -/
noncomputable def keysL (D : DataW Unit) : List ByteArray := ((strKeys D).mergeSort leB).map fun l => ⟨l.toArray⟩
theorem keysL_rows (D : DataW Unit) : rowsOf strR (keysL D) = ((strKeys D).mergeSort leB).map encStr := by
  unfold rowsOf keysL
  rw [List.flatMap_map]
  generalize (strKeys D).mergeSort leB = l
  induction l with
  | nil => rfl
  | cons a l ih => simp only [List.flatMap_cons, List.map_cons, ih]; rfl
theorem keysL_len (D : DataW Unit) : (keysL D).length = (strKeys D).length := by unfold keysL; rw [List.length_map, List.length_mergeSort]
/-- what Endpoints answers, whenever -/
def EndsE (w : World) (b : Nat) (K : List ByteArray) : Prop := (∀ s ∈ K, okS s) ∧ K.length ≤ 1099511627776 ∧ ∀ W, Below w.heap.size w W → Calls Try.prog 16 #[.pointer (some ⟨b, 0, none⟩)] W fun e W' => ∃ v, e = .returned v ∧ W'.ownsRow W.heap.size 9 1 v K.length (rowsOf strR K) ∧ Below W.heap.size W W'
theorem endpoints_any (w : World) (base b n : Nat) (r : Rg) (h : Rr w base b n r) : ∃ K, EndsE w b K := by
  rcases hmo : r.mo with _ | m
  · refine ⟨[], fun s hs => (by cases hs), by simp, fun W hW => ?_⟩
    have c3 := (h.below hW).cs.2.2.2
    rw [hmo] at c3
    have HS := hideL (sorted_call_nil W)
    clear h hmo
    go_enter Try.func16, Try.ntmps16
    go_wp2_with (first
      | (go_at_call 27; refine (keys_call none W).mono ?_; rintro e w1 ⟨rfl, hw⟩; subst hw)
      | (go_at_call 26; refine HS.out.mono ?_; rintro e w2 ⟨rfl, hb⟩; have HB := hideL hb; clear hb)
      | (go_at_call 25; refine (copies_any _ none 0 0 [] rfl (by decide) (.inl rfl) (fun s hs => by cases hs)).mono ?_; rintro e w3 ⟨v, rfl, hr, hb⟩; have HR := hideL hr; have HB3 := hideL hb; clear hr hb))
    go_ret
    exact ⟨v, rfl, own_low' HR.out HB.out.size, HB.out.trans (HB3.out.mono HB.out.size)⟩
  · have hmp := h.mp
    rw [hmo] at hmp
    obtain ⟨D, hown, ht, hf, hk⟩ : ∃ D : DataW Unit, w.ownsMap Try.prog 9 Rf m r.N D ∧ Go.Maps.Tidy D ∧ True ∧ ∀ x ∈ strKeys D, okS ⟨x.toArray⟩ := by
      cases hmp with
      | at_ m N f hms hb => obtain ⟨D, h1, h2, _, h4⟩ := hms.ex; exact ⟨D, h1, h2, trivial, h4⟩
    have hN := h.cnt
    have hl : (keysL D).length ≤ 1099511627776 := by
      rw [keysL_len]
      have := hown.size_le
      obtain ⟨es, rfl, _⟩ := ht
      have e1 : (strKeys (DataW.map es)).length = Maps.size (DataW.map es : DataW Unit) := by simp [strKeys, Maps.size]
      omega
    have hok : ∀ s ∈ keysL D, okS s := by
      intro s hs
      obtain ⟨x, hx, rfl⟩ := List.mem_map.1 hs
      exact hk x ((List.mergeSort_perm _ _).mem_iff.1 hx)
    refine ⟨keysL D, hok, hl, fun W hW => ?_⟩
    have c3 := (h.below hW).cs.2.2.2
    rw [hmo] at c3
    have hown2 : W.ownsMap Try.prog 9 Rf m r.N D := by
      have hl := hown.lt
      obtain ⟨es, clock, hb, rest⟩ := hown
      exact ⟨es, clock, (hW.block _ hl).trans hb, rest⟩
    have HS := hideL (sorted_call m r.N D W hown2 hN)
    have HL := hideL hl
    have HK := hideL hok
    clear h hmo hmp hown ht hf hk hN hown2 hl hok
    go_enter Try.func16, Try.ntmps16
    go_wp2_with (first
      | (go_at_call 27; refine (keys_call (some m) W).mono ?_; rintro e w1 ⟨rfl, hw⟩; subst hw)
      | (go_at_call 26; refine HS.out.mono ?_; rintro e w2 ⟨v, rfl, hr, hb⟩; rw [← keysL_rows, ← keysL_len] at hr; obtain ⟨va, vc, rfl, _⟩ := own_form hr; have HC := hideL (own_cel strR 1 strR_len (by decide) hr); have HB := hideL hb; clear hb hr HS)
      | (go_at_call 25; refine (copies_any _ va _ vc (keysL D) rfl (by have := HL.out; omega) HC.out HK.out).mono ?_; rintro e w3 ⟨v, rfl, hr, hb⟩; have HR := hideL hr; have HB3 := hideL hb; clear hr hb))
    go_ret
    exact ⟨v, rfl, own_low' HR.out HB.out.size, HB.out.trans (HB3.out.mono HB.out.size)⟩
end Go.Proofs.Ytidpglbokpgpbaa
