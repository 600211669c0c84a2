/-
  What the rows share: who is healthy, opened; the statuses out of the row's condition.
-/
import Derived.Test.YtfhobglcploaoaaDoorOq
import Derived.Test.YtfhobglcploaoaaDoorHb
import Derived.Test.YtfhobglcploaoaaDoorRows
import Derived.Test.YtfhobglcploaoaaDoorChecked
import Derived.LaidMore
import Derived.Stop.Joined
import Derived.Stop.LaidErr
import Derived.Lib.LaidTab
namespace Go.Proofs.YtfhobglcploaoaaDoor
open Go.ChangeShapes Go.WideShapes Go.ChangeAt Go.RowKit Go.ChangeMaps Go.Deep
set_option linter.unusedVariables false
set_option linter.unusedSimpArgs false
abbrev laidList : List (String × DataW Unit) := Rows.decideDeniedRow.laid
/-- The program's own start meets the condition. -/
theorem door_met (os : Os) (args : Array Value) : laidMetH Tryd.prog laidList ((World.doorLaid Tryd.prog 14 os).forCall (fun _ _ => 0) ⟨#[], args, []⟩).memory :=
  laidMetH_of_parts3 (fuel := 8) (laidMet_of_run' 8 (by kernel_rfl) (by kernel_rfl)) (by kernel_rfl) (by kernel_rfl)
theorem gst : Tryd.prog.globalNamed "turnpike/decide.statuses" = some 0 := by kernel_rfl
theorem tst : (Tryd.prog.globals[0]?).map (·.type) = some 60 := by kernel_rfl
theorem cc3 : Tryd.prog.cellsOf 3 = 1 := by kernel_rfl
theorem cc60 : Tryd.prog.cellsOf 60 = 6 := by kernel_rfl
set_option maxRecDepth 100000 in
theorem sts_of {W : World} (h : laidMetH Tryd.prog laidList W) : Sts W := by
  rw [MakeChecks.laidMetH_plain _ _ _ (by kernel_rfl)] at h
  have hT : Lib.TabIs Tryd.prog W "turnpike/decide.statuses" .i64 [0, 0, 404, 404, 403, 503] := Lib.tabIs_of_head (zs := [0, 0, 404, 404, 403, 503]) (k := .i64) gst tst Tryd.underlying60 Tryd.underlying3 cc3 cc60 h
  exact ⟨hT.cell gst 1 (by decide), hT.cell gst 2 (by decide), hT.cell gst 3 (by decide), hT.cell gst 4 (by decide), hT.cell gst 5 (by decide)⟩
theorem ch54 : Tryd.prog.cellsOf 54 = 2 := by kernel_rfl
theorem bh54 : 0 < Tryd.prog.bytesOf 54 := by rw [show Tryd.prog.bytesOf 54 = 40 by kernel_rfl]; decide
theorem open_hy {H : Type} {enc : TypeId × Value → H} {W : World} (fuel : Nat) (cs : List Value) (z : DataW H × List MemPlace) (hf : DataW.trod enc Tryd.prog W 0 (fun _ => true) true fuel 54 cs = some z) (hb : Wb 54 z.1) : ∃ t : Hy, cs = t.row ∧ Yin W t := by
  obtain ⟨xs, n, _, hx, hl, hlen, hff⟩ := DataW.trod_struct Tryd.underlying54 hf
  rw [ch54] at hl
  obtain ⟨a0, a1, rfl⟩ := two_ hl
  match xs, hlen with
  | [y0, y1], _ =>
    have t0 := hff 0 _ rfl
    have t1 := hff 1 _ rfl
    simp [c9, c23] at t0 t1
    rw [hx] at hb
    obtain ⟨s0, rfl, h0⟩ := str_ok t0 (wb_agg Tryd.underlying54 hb 0 9 y0.1 rfl rfl)
    obtain ⟨ea, ec, eps, e2, p1, p2, p3⟩ := open_row ByteArray strR okS (fun _ => rfl) (by decide) Tryd.underlying23 c9 b9 open_str t1 (wb_agg Tryd.underlying54 hb 1 23 y1.1 rfl rfl)
    simp at e2
    subst e2
    exact ⟨⟨s0, eps, ea, ec⟩, rfl, ⟨p1, p3, p2, h0⟩⟩
theorem open_hys {H : Type} {enc : TypeId × Value → H} {W : World} {v : Value} {d : DataW H} {p : List MemPlace} {base : Nat} (hv : Value.okWide Tryd.prog W .any base 26 v)
    (h : DataW.Trod enc Tryd.prog W 0 (fun _ => true) true 26 v d p) (hb : Wb 26 d) : ∃ (a : Option Addr) (n c : Nat) (l : List Hy), v = .slice a n c ∧ Lin W a n l := by
  obtain ⟨x, n0, c0, rfl⟩ := okWide_slice Tryd.underlying26 hv
  obtain ⟨fuel, hf⟩ := h
  obtain ⟨a, c, l, e, p1, p2, p3⟩ := open_row Hy Hy.row (Yin W) (fun _ => rfl) (by decide) Tryd.underlying26 ch54 bh54 open_hy hf hb
  simp [Value.cells] at e
  obtain ⟨rfl, rfl, rfl⟩ := e
  exact ⟨_, _, _, l, rfl, ⟨p1, rfl, p3, p2⟩⟩
end Go.Proofs.YtfhobglcploaoaaDoor
