/-
  The names of a disk, sorted.
-/
import Derived.Test.YtkmohpdcchpndaaKeys
import Derived.Test.YtkmohpdcchpndaaSdir
namespace Go.Proofs.Ytkmohpdcchpndaa
open Go.RowKit Go.Maps Go.Sort Go.Shelf
set_option linter.unusedVariables false
set_option linter.unusedSimpArgs false
set_option maxRecDepth 100000
theorem sorts_in (m : Nat) : AnyZ.SortsIn Try.prog Try.sorted35_ren Fence.wide m :=
  ⟨fun blk off cap ss W hH hblk hsz => callsIn_wide.2 (AnyM.slices_Sort_string Try.sort60 blk off cap ss W hH hblk hsz), fun p cap W => callsIn_wide.2 (AnyM.slices_Sort_string_none Try.sort60 p cap W)⟩
theorem keys_call (mo : Option Nat) (w : World) : Calls Try.prog 36 #[.map mo] w fun e w' => e = .returned (.func (.func 61) #[] #[.pointer (some ⟨w.heap.size, 0, none⟩)]) ∧ w' = w.alloc (.cells #[.map mo] 62) :=
  callsIn_wide.1 (AnyZ.keys_in Try.keys36 Fence.wide 5 trivial rfl mo w)
set_option maxHeartbeats 1000000 in
theorem sorted_call (m n : Nat) (D : DataW Unit) (w : World) (h : OM w m n D) (hm : Maps.size D ≤ 1000000) :
    Calls Try.prog 35 #[.func (.func 61) #[] #[.pointer (some ⟨w.heap.size, 0, none⟩)]] (w.alloc (.cells #[.map (some m)] 62)) fun e w' => ∃ (v : Value), e = .returned v ∧ w'.ownsRow w.heap.size 9 1 v (strKeys D).length (((strKeys D).mergeSort leB).map encStr) ∧ Below w.heap.size w w' := by
  have hl := h.lt
  have h1 : SeqGives Fence.wide 2 Try.prog 61 #[.pointer (some ⟨w.heap.size, 0, none⟩)] encStr (fun ss => ss.Perm (strKeys D)) (Maps.size D) (w.alloc (.cells #[.map (some m)] 62)) :=
    AnyZ.keys_gives (ρ := Try.keys36_ren) { Try.keys36 with } Fence.wide _ trivial rfl (by omega) w.heap.size m n D _ (by simp) (by simp) (by
      obtain ⟨es, clock, hb, rest⟩ := h
      exact ⟨es, clock, (Below.heap_alloc _ _ m hl).trans hb, rest⟩)
  have hmx : Maps.size D ≤ maxLen := by
    have : (1000000 : Nat) ≤ maxLen := by decide
    omega
  have h2 := AnyZ.sorted_in Try.sorted35 Fence.wide 5 trivial trivial trivial trivial rfl (by omega) (sorts_in _) (enters_of Try.func60 (by kernel_rfl) rfl) 61 #[.pointer (some ⟨w.heap.size, 0, none⟩)] trivial (enters_of Try.func61 (by kernel_rfl) rfl) _ _ hmx (by omega) _ h1
  refine (callsIn_wide.1 h2).mono ?_
  rintro e w' ⟨v, ss, rfl, hS, hrow, _, hb⟩
  refine ⟨v, rfl, ?_, ((Below.refl _ w).alloc (Nat.le_refl _) _).trans (hb.mono (by simp))⟩
  have e1 : ss.mergeSort (fun x y => decide (x ≤ y)) = (strKeys D).mergeSort leB := mergeSort_of_perm hS
  rw [e1, hS.length_eq] at hrow
  exact own_low' hrow (by simp)
set_option maxHeartbeats 1000000 in
theorem sorted_call_nil (w : World) :
    Calls Try.prog 35 #[.func (.func 61) #[] #[.pointer (some ⟨w.heap.size, 0, none⟩)]] (w.alloc (.cells #[.map none] 62)) fun e w' => e = .returned (.slice none 0 0) ∧ Below w.heap.size w w' := by
  have h1 : SeqGives Fence.wide 2 Try.prog 61 #[.pointer (some ⟨w.heap.size, 0, none⟩)] encStr (fun ss : List (List UInt8) => ss = []) 0 (w.alloc (.cells #[.map none] 62)) :=
    AnyZ.keys_gives_nil (ρ := Try.keys36_ren) { Try.keys36 with } Fence.wide _ trivial rfl w.heap.size _ (by simp) (by simp)
  have h2 := AnyZ.sorted_in Try.sorted35 Fence.wide 5 trivial trivial trivial trivial rfl (by omega) (sorts_in _) (enters_of Try.func60 (by kernel_rfl) rfl) 61 #[.pointer (some ⟨w.heap.size, 0, none⟩)] trivial (enters_of Try.func61 (by kernel_rfl) rfl) _ 0 (Nat.zero_le _) (by omega) _ h1
  refine (callsIn_wide.1 h2).mono ?_
  rintro e w' ⟨v, ss, rfl, hS, hrow, hn, hb⟩
  exact ⟨by rw [hn.2 hS], ((Below.refl _ w).alloc (Nat.le_refl _) _).trans (hb.mono (by simp))⟩
/-- the names, in their order -/
noncomputable def namesL (od : Option (DataW Unit)) : List ByteArray := od.elim [] fun D => ((strKeys D).mergeSort leB).map fun l => ⟨l.toArray⟩
theorem names_any (w : World) (base d : Nat) (x : Dr) (h : Dir w base d x) (hup : x.c1 = .bool false) (hfew : x.now.elim 0 Go.Maps.size ≤ 1000000) :
    Calls Try.prog 11 #[.pointer (some ⟨d, 0, none⟩)] w fun e w' => ∃ v, e = .returned v ∧ w'.ownsRow w.heap.size 9 1 v (namesL x.now).length ((namesL x.now).map Value.string) ∧ Below w.heap.size w w' := by
  have HC : Hid (Calls Try.prog 29 #[.pointer (some ⟨d, 0, none⟩), .slice none 0 0] w fun e w' => e = .returned (.int .i64 0) ∧ w' = w) := up_refuses h hup
  have hblk := h.blk
  rcases h.now with ⟨hnv, hnn⟩ | ⟨m, D, hnv, hnn, hbm, hown, htidy⟩
  · rw [hnv] at hblk
    have h5 : w.cell? ⟨d, 5, none⟩ = some (.map none) := by rw [cell_block hblk]; rfl
    have HS := hide2 (sorted_call_nil w)
    clear h hblk
    go_enter Try.func11, Try.ntmps11
    go_wp2_with (first | (go_at_call 29; refine HC.out.mono ?_; rintro e w1 ⟨rfl, hw⟩; have hw := hw.symm; subst hw) | (go_at_call 36; refine (keys_call none w).mono ?_; rintro e w1 ⟨rfl, hw⟩; subst hw) | (go_at_call 35; refine HS.out.mono ?_; rintro e w2 ⟨rfl, hb⟩; have HB := hide2 hb; clear hb))
    go_ret
    refine ⟨_, rfl, ?_, HB.out⟩
    rw [hnn]
    exact ⟨rfl, .inl ⟨rfl, rfl⟩⟩
  · rw [hnv] at hblk
    have h5 : w.cell? ⟨d, 5, none⟩ = some (.map (some m)) := by rw [cell_block hblk]; rfl
    have hfew' : Maps.size D ≤ 1000000 := by rw [hnn] at hfew; exact hfew
    have HS := hide2 (sorted_call m x.bn D w hown hfew')
    clear h hblk hown hfew
    go_enter Try.func11, Try.ntmps11
    go_wp2_with (first | (go_at_call 29; refine HC.out.mono ?_; rintro e w1 ⟨rfl, hw⟩; have hw := hw.symm; subst hw) | (go_at_call 36; refine (keys_call (some m) w).mono ?_; rintro e w1 ⟨rfl, hw⟩; subst hw) | (go_at_call 35; refine HS.out.mono ?_; rintro e w2 ⟨v, rfl, hr, hb⟩; have HB := hide2 hb; have HR := hide2 hr; clear hb hr))
    go_ret
    refine ⟨v, rfl, ?_, HB.out⟩
    have hr := HR.out
    rw [hnn]
    show w2.ownsRow w.heap.size 9 1 v (((strKeys D).mergeSort leB).map fun l => (⟨l.toArray⟩ : ByteArray)).length ((((strKeys D).mergeSort leB).map fun l => (⟨l.toArray⟩ : ByteArray)).map Value.string)
    rw [List.length_map, List.length_mergeSort, List.map_map]
    exact hr
end Go.Proofs.Ytkmohpdcchpndaa
