/-
  FramesBack: the ways, one by one.
-/
import Derived.Test.YteeclghhoioapaaDoorFs
namespace Go.Proofs.YteeclghhoioapaaDoor
open Go.RowKit
set_option linter.unusedVariables false
set_option linter.unusedSimpArgs false
set_option maxRecDepth 100000
set_option maxHeartbeats 8000000 in
theorem fback2 (m : Ms) (a : Option Addr) (n cap : Nat) (zs : List Int) (c ER : Int) (w : World) (hT : Tab w) (hs : Sm m) (h : Bs w a n cap zs) (hn : cap ≤ 1048576) (hc : -9223372036854775808 ≤ c ∧ c ≤ 9223372036854775807) (ho : okM m = false) (hd : decM zs = (zeroM, 0, ER) ∧ ER ≠ 0) :
    Calls Tryd.prog 6 #[mv m, .slice a n cap, .int .i64 c] w fun e w' => e = .returned (.bool true) ∧ Below w.heap.size w w' := by
  have HO := hideL (fun w => own_any m w (by have := hs.2.1; unfold maxLen; omega) (by have := hs.2.2.1; unfold maxLen; omega))
  have HE := hideL (fun w h => encode_any m w h hs)
  have HFO := hideL (frm_octets m)
  have HFL := hideL (frm_small m)
  have HS := hideL (Fbs.start w m a n cap zs hT h)
  have HC := hideL hc
  have hcl : n ≤ cap := h.fits
  have e1 : frmE m = 2 := by unfold frmE; rw [ho]; rfl
  have e2 : frmB m = [] := by unfold frmB; rw [ho]; rfl
  rw [e2] at HE
  clear e2
  rw [e1] at HE
  have HD := hideL hd.1
  have hne : ¬ ER = 0 := hd.2
  obtain ⟨kind, name, ver, frm, non, err, text⟩ := m
  have HH := hideL hn
  clear hT hs h hd ho e1 hn hc
  simp only [mv, mcs] at *
  go_enter Tryd.func6, Tryd.ntmps6
  go_wp2_with (first
    | (go_at_call 22; have hq := HS; clear hq; refine (awake_any _ HS.out.tab).mono ?_; rintro e w1 ⟨rfl, hb⟩; have hS := HS.out.below hb; obtain ⟨c0, c1, c2, c3, c4, c5, c6⟩ := hS.hw.1.cs; have HS1 := hideL hS; clear hS hb HS)
    | (go_at_call 10; have hq := HS1; clear hq; refine (HO.out _).mono ?_; rintro e w2 ⟨rfl, hb⟩; have HS2 := hideL (HS1.out.below hb); clear hb HS1 c0 c1 c2 c3 c4 c5 c6)
    | (go_at_call 9; have hq := HS2; clear hq; refine (HE.out _ HS2.out.tab).mono ?_; rintro e w3 ⟨v3, rfl, hr, hb⟩; obtain ⟨ab, cb, rfl, -⟩ := hr.has; have HS3 := hideL (HS2.out.below hb); clear hr hb HS2)
    | (go_at_call 12; have hq := HS3; clear hq; refine (lentE a n cap zs _ HS3.out.tl (by have := HH.out; have := HS3.out.tl.fits; omega)).mono ?_; rintro e wq ⟨vq, rfl, hL⟩; obtain ⟨aq, cq, rfl, hB, -⟩ := hL.row.1.bs HS3.out.tl.oct (by have := HS3.out.tl.len; have := HS3.out.tl.small; omega); have hln := HS3.out.tl.len; rw [hln] at hB ⊢; have HBq := hideL hB; have HSq := hideL (HS3.out.below hL.row.2); clear hL hB hln HS3)
    | (go_at_call 13; have hq := HSq; clear hq; refine (decode_any aq n cq zs _ HBq.out HSq.out.tab).mono ?_; rintro e wy ⟨rfl, hb⟩; rw [HD.out]; simp only [mv, zeroM]; have HSy := hideL (HSq.out.below hb); clear hb HSq HBq))
  go_ret
  exact ⟨rfl, (HSy.out.alloc _).hw.2.1⟩
end Go.Proofs.YteeclghhoioapaaDoor
