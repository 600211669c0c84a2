/-
  lines.Each, lines.Scan.
-/
import Derived.Test.YtjmgngocpokpgaaDoorEch
import Derived.Test.YtjmgngocpokpgaaDoorRng2
namespace Go.Proofs.YtjmgngocpokpgaaDoor
open Go.RowKit Go.Shelf
set_option linter.unusedVariables false
set_option linter.unusedSimpArgs false
attribute [local go_sem] Oper.semAt_some
theorem str_has (w : World) (a : Option Addr) (n cap : Nat) (l : List UInt8) (hn : l.length = n) (hB : Has w a (zL l)) : (convert 22 9 (.slice a n cap)).run Tryd.prog w = .ok (.string ⟨l.toArray⟩) w := by
  rw [run_convert_bytes_string w 22 9 5 a n cap Tryd.underlying22 Tryd.underlying5 Tryd.underlying9]
  subst hn
  rcases hB with ⟨rfl, h0⟩ | ⟨x, rfl, hB⟩
  · have : l = [] := by simpa [zL] using h0
    subst this
    simp [Conv.bytesToString]; rfl
  · have hl := run_loadCells_list (P := Tryd.prog) w x ((zL l).map (Value.int .u8)) (fun j v hj => by
      obtain ⟨hj', rfl⟩ := vals_at (zL l) j v hj
      exact hB j hj')
    simp only [List.length_map, zL_length] at hl
    have := run_bytesToString w x l.length cap (zL l) hl
    rw [this, fold_push]
    congr
    simp
theorem each_big (a : Option Addr) (n cap : Nat) (w : World) (hn : 65536 < n) (hl : n ≤ maxLen) : Calls Tryd.prog 15 #[.slice a n cap] w fun e w' => e = .returned (.func (.func 26) #[] #[]) ∧ w' = w := by
  unfold maxLen at hl
  have h1 : (65536 : Int) < n := by omega
  go_enter Tryd.func15, Tryd.ntmps15
  go_wp2
  go_ret
  exact ⟨rfl, rfl⟩
theorem each_any (a : Option Addr) (n cap : Nat) (l : List UInt8) (w : World) (hn : l.length = n) (hB : Has w a (zL l)) (hl : n ≤ 65536) :
    Calls Tryd.prog 15 #[.slice a n cap] w fun e w' => e = .returned (.func (.func 27) #[] #[.pointer (some ⟨w.heap.size, 0, none⟩)]) ∧ w' = w.alloc (.cells #[.string ⟨l.toArray⟩] 9) := by
  have h1 : ¬ (65536 : Int) < n := by omega
  have hc := str_has w a n cap l hn hB
  clear hB
  go_enter Tryd.func15, Tryd.ntmps15
  go_wp2
  go_ret
  exact ⟨rfl, rfl⟩
end Go.Proofs.YtjmgngocpokpgaaDoor
