/-
  Copies: texts, targets, rules.
-/
import Derived.Test.YtmljljpldljpjabAp
import Derived.Test.YtmljljpldljpjabShf
import Derived.BigQuiet
namespace Go.Proofs.Ytmljljpldljpjab
open Go.RowKit
set_option linter.unusedVariables false
set_option linter.unusedSimpArgs false
set_option maxRecDepth 100000
theorem clone_any (s : ByteArray) (w : World) (h : okS s) : Calls Try.prog 50 #[.string s] w fun e w' => e = .returned (.string s) ∧ Below w.heap.size w w' := by
  have hc := Try.stringslite_Clone s w (by unfold okS at h; omega)
  go_enter Try.func50, Try.ntmps50
  go_wp2_with (go_at_call 73; refine hc.mono ?_; rintro e w1 ⟨rfl, hb⟩)
  go_ret
  exact ⟨rfl, hb⟩
theorem made_row {w w1 : World} {v : Value} {e : TypeId} {sz : Nat} (hown : w1.ownsRow w.heap.size e sz v 0 []) (hg : w.grownBy w1 none) : Below w.heap.size w w1 := (Below.refl _ w).grown hg (Nat.le_refl _) (fun k h => by cases h)
set_option maxHeartbeats 8000000 in
theorem copiesS_any (w : World) (a : Option Addr) (n c : Nat) (L : List ByteArray) (hn : L.length = n) (hl : n ≤ 1048576) (hS : Cel w a 1 (L.map strR)) (hok : ∀ s ∈ L, okS s) :
    Calls Try.prog 51 #[.slice a n c, .func (.func 50) #[] #[]] w fun e w' => ∃ v, e = .returned v ∧ w'.ownsRow w.heap.size 9 1 v n (rowsOf strR L) ∧ Below w.heap.size w w' := by
  have HS := hideL hS
  have HN := hideL hn
  have HK := hideL hok
  clear hS hn hok
  obtain ⟨i9, hi9, hx0, hx1, hx2⟩ := info_parts Try.info9
  go_enter Try.func51, Try.ntmps51
  go_wp2_with (at_make; refine wpList_make_own _ rfl (.const (.int .i64 0)) (.tmp 9) 30 rfl w.heap.size 9 i9 _ 1 Try.underlying30 hi9 hx0 hx1 .i64 .i64 (n : Int) n rfl rfl (by omega) (by rw [hx2]; omega) (by unfold maxLen; omega) (Nat.le_refl _) ?_; intro w1 hown1 hgrow1; have HO1 := hideL hown1; have HB1 := hideL (made_row hown1 hgrow1); clear hown1 hgrow1)
  go_loopw [5, 13] (fun v t wr => ∃ (i : Nat), t = .int .i64 i ∧ i ≤ n ∧ wr.ownsRow w.heap.size 9 1 v i (rowsOf strR (L.take i)) ∧ Below w.heap.size w wr) (fun _ t _ => n - (intOf t).toNat)
  case atStart => exact ⟨0, rfl, by omega, by simpa [rowsOf] using HO1.out, HB1.out⟩
  case round =>
    obtain ⟨i, rfl, hi, hown, hbel⟩ := hrel
    have i0 : (0 : Int) ≤ i := by omega
    obtain ⟨va, vc, rfl, _, hvc, hvm⟩ := own_form hown
    have HOW := hideL hown
    have HB := hideL hbel
    have hlm : i + 1 ≤ maxLen := by unfold maxLen; omega
    have hlb : (i + 1) * 16 ≤ 140737488355328 := by omega
    clear hown hbel HO1 HB1
    by_cases h3 : i < n
    · have h3' : (i : Int) < n := by omega
      rcases hki : L[i]? with _ | o
      · have := List.getElem?_eq_none_iff.1 hki; have := HN.out; omega
      obtain ⟨g, off, rfl, hc⟩ := (HS.out.below HB.out).at_ hki
      have c0 := hc 0 _ rfl
      rw [Nat.add_zero, Nat.mul_one] at c0
      have HTR := hideL (take_rows strR hki)
      have hoko := HK.out o (List.mem_of_getElem? hki)
      clear hc hki
      go_wp2_with fail
      refine (clone_any o _ hoko).mono ?_
      rintro e w2 ⟨rfl, hb2⟩
      have HB2 := hideL (HB.out.trans (hb2.mono HB.out.size))
      have HO2 := hideL (own_blk' HOW.out (fun k hk => hb2.block k (HOW.out.lt k hk).2))
      clear hb2 c0
      have HOD : Hid ((w2.alloc (Obj.cells #[.string o] 9)).ownsRow w.heap.size 9 1 (.slice va i vc) i (rowsOf strR (L.take i))) := HO2.out.alloc _
      have HND : Hid (∀ j u, (strR o)[j]? = some u → (w2.alloc (Obj.cells #[.string o] 9)).cell? ((⟨w2.heap.size, 0, none⟩ : Addr).add j) = some u) := World.news_of_block (w := (w2.alloc (Obj.cells #[.string o] 9))) (Go.heap_alloc_new w2 _)
      have hszD : w.heap.size ≤ (w2.alloc (Obj.cells #[.string o] 9)).heap.size := Nat.le_trans HB2.out.size (by simp)
      go_wp2_with (at_builtin; refine wpList_append_at _ rfl (.tmp 17) (.tmp 21) 30 rfl w.heap.size 9 i9 _ 1 16 Try.underlying30 hi9 hx0 hx1 hx2 rfl (by decide) (.slice va i vc) i (rowsOf strR (L.take i)) rfl HOD.out ⟨w2.heap.size, 0, none⟩ 1 1 (strR o) rfl rfl HND.out (strR_one _) hlm hlb hszD ?_; intro v3 w3 hown3 hgrow3 hat3; have HB3 := hideL (below_app (mm := 0) HO2.out HB2.out.size hgrow3); have HO3 := hideL hown3; clear hown3 hgrow3 hat3)
      have HF : Hid (w3.ownsRow w.heap.size 9 1 v3 (i + 1) (rowsOf strR (L.take (i + 1)))) := by rw [HTR.out]; exact HO3.out
      go_roundw
      case rel => exact ⟨i + 1, by go_num, by omega, HF.out, HB2.out.trans HB3.out⟩
      case measure => simp [intOf]; omega
    · have h3' : ¬ (i : Int) < n := by omega
      obtain rfl : i = n := by omega
      have HF : Hid (wr.ownsRow w.heap.size 9 1 (.slice va i vc) i (rowsOf strR L)) := by
        have h1 := HOW.out
        rwa [List.take_of_length_le (by have := HN.out; omega)] at h1
      go_wp2
      go_ret
      exact ⟨_, rfl, HF.out, HB.out⟩
end Go.Proofs.Ytmljljpldljpjab
