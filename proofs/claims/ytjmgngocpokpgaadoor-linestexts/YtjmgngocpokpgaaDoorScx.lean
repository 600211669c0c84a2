/-
  lines.Scan of any bytes.
-/
import Derived.Test.YtjmgngocpokpgaaDoorScan
namespace Go.Proofs.YtjmgngocpokpgaaDoor
open Go.RowKit Go.Shelf
set_option linter.unusedVariables false
set_option linter.unusedSimpArgs false
/-- All that is told of a text, however long. -/
def scnF (l : List UInt8) : List Tl := if 65536 < l.length then [longT] else allF l
theorem linF_fine : ∀ (n : Nat) (r : List UInt8) (num docs : Nat) (x : Tl), x ∈ linF n r num docs → Fine x ∨ x.e ≠ 0
  | 0, r, num, docs, x, h => by cases h
  | n + 1, r, num, docs, x, h => by
    rw [linF] at h
    split at h
    · cases h
    · split at h
      · rename_i h1 h2
        obtain rfl := List.mem_singleton.1 h
        exact .inr h2
      · rcases List.mem_append.1 h with h | h
        · obtain ⟨t, _, rfl⟩ := List.mem_map.1 h
          exact .inl ⟨rfl, rfl, rfl⟩
        · exact linF_fine n _ _ _ x h
theorem scan_any (a : Option Addr) (n cap : Nat) (l : List UInt8) (w : World) (hn : l.length = n) (hB : Has w a (zL l)) (hl : n ≤ maxLen) (hm : ∃ m, w.cell? ⟨0, 0, none⟩ = some (.int .i64 m)) :
    Calls Tryd.prog 11 #[.slice a n cap] w (ScE w (scnF l)) := by
  obtain ⟨m, hm⟩ := hm
  have hw0 : 0 < w.heap.size := World.block_lt_of_cell? w _ hm
  have b0 : Below w.heap.size w (((w.alloc (.cells #[.slice none 0 0] 29)).alloc (.cells #[.int .i64 0, .int .i64 0, .int .i64 0] 32)).alloc (.cells #[.slice none 0 0] 29)) := (((Below.refl _ w).alloc (Nat.le_refl _) _).alloc (by simp) _).alloc (by simp; omega) _
  have hsz := len4 w (.cells #[.slice none 0 0] 29) (.cells #[.int .i64 0, .int .i64 0, .int .i64 0] 32) (.cells #[.slice none 0 0] 29)
  have hc4 : (((w.alloc (.cells #[.slice none 0 0] 29)).alloc (.cells #[.int .i64 0, .int .i64 0, .int .i64 0] 32)).alloc (.cells #[.slice none 0 0] 29)).cell? ⟨w.heap.size + 2, 0, none⟩ = some (.slice none 0 0) := by
    have := heap_alloc_new ((w.alloc (.cells #[.slice none 0 0] 29)).alloc (.cells #[.int .i64 0, .int .i64 0, .int .i64 0] 32)) (.cells #[.slice none 0 0] 29)
    rw [World.size_alloc, World.size_alloc] at this
    exact cell_of this 0 _ rfl
  obtain ⟨W, hW⟩ : ∃ W, (((w.alloc (.cells #[.slice none 0 0] 29)).alloc (.cells #[.int .i64 0, .int .i64 0, .int .i64 0] 32)).alloc (.cells #[.slice none 0 0] 29)) = W := ⟨_, rfl⟩
  by_cases hlong : 65536 < n
  · rw [scnF, if_pos (by omega)]
    refine scan_core a n cap w 26 #[] [longT] 2 (by decide) (enters_of Tryd.func26 (by kernel_rfl) rfl) (fun x hx => by obtain rfl := List.mem_singleton.1 hx; exact .inr (by decide)) ?_
    refine (each_big a n cap _ hlong hl).mono ?_
    rintro e w' ⟨rfl, rfl⟩
    exact ⟨rfl, Below.refl _ _, each_long 2 (by decide) _ _ _⟩
  · rw [scnF, if_neg (by omega)]
    rw [hW] at b0 hsz hc4
    refine scan_core a n cap w 27 #[.pointer (some ⟨w.heap.size + 3, 0, none⟩)] (allF l) (l.length + 1) (by omega) (enters_of Tryd.func27 (by kernel_rfl) rfl) (fun x hx => linF_fine _ _ _ _ x hx) ?_
    rw [hW]
    refine (each_any a n cap l W hn (hB.of_below b0) (by omega)).mono ?_
    rintro e w' ⟨rfl, rfl⟩
    rw [hsz]
    have hb : Below W.heap.size W (W.alloc (.cells #[.string ⟨l.toArray⟩] 9)) := (Below.refl _ W).alloc (Nat.le_refl _) _
    have hcv : (W.alloc (.cells #[.string ⟨l.toArray⟩] 9)).cell? ⟨w.heap.size + 2, 0, none⟩ = some (.slice none 0 0) := (hb.cell (p := ⟨w.heap.size + 2, 0, none⟩) (by show w.heap.size + 2 < _; omega)).trans hc4
    have hcs : ∀ k, Cs [w.heap.size, w.heap.size + 1] (w.heap.size + 2) (W.alloc (.cells #[.string ⟨l.toArray⟩] 9)) k → k = w.heap.size ∨ k = w.heap.size + 1 ∨ k = w.heap.size + 2 := by
      intro k hk
      unfold Cs at hk
      rw [hcv] at hk
      simp [Value.ownBlock] at hk
      omega
    refine ⟨rfl, hsz ▸ hb, each_seq 2 (by decide) (w.heap.size + 3) l (by omega) m _ _ _ (by simp; omega) ?_ ⟨?_, fun h => ?_⟩ (by simp; omega) (fun k hk => ?_)⟩
    · have := heap_alloc_new W (.cells #[.string ⟨l.toArray⟩] 9)
      rw [hsz] at this
      exact cell_of this 0 _ rfl
    · exact (hb.cell (p := ⟨0, 0, none⟩) (by show 0 < _; omega)).trans ((b0.cell (p := ⟨0, 0, none⟩) hw0).trans hm)
    · have := hcs 0 h; omega
    · have := hcs k hk; simp; omega
/-- Two texts as they are told. -/
theorem told_good : scnF [97, 58, 32, 98, 10] = [okT ⟨3, 1, 0, [97], false⟩, okT ⟨4, 1, 3, [98], false⟩] := by kernel_rfl
theorem told_bad : scnF [97, 58, 32, 42, 10] = [⟨zTk, 0, 1, 83⟩] := by kernel_rfl
end Go.Proofs.YtjmgngocpokpgaaDoor
