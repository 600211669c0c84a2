/-
  Find, and the document's.
-/
import Derived.Test.YtcihhcolgfaaiaaTi
import Derived.Test.YtcihhcolgfaaiaaKPh
namespace Go.Proofs.Ytcihhcolgfaaiaa
open Go.RowKit
set_option linter.unusedVariables false
set_option linter.unusedSimpArgs false
set_option maxRecDepth 100000
/-- whether a pattern takes a host -/
def takB (s : ByteArray) (h : ByteArray) : Bool := Kk.hostM s.data.toList h.data.toList
theorem okS_len {s : ByteArray} (h : okS s) : s.data.toList.length ≤ 2 ^ 61 := Nat.le_trans (show s.data.toList.length ≤ 140737488355328 from h) (by decide)
theorem ba_back (s : ByteArray) : (⟨s.data.toList.toArray⟩ : ByteArray) = s := by cases s; simp
theorem hostp_any (s h : ByteArray) (w : World) (g1 : okS s) (g2 : okS h) : Calls Try.prog 8 #[.string s, .string h] w fun e w' => e = .returned (.bool (takB s h)) ∧ Below w.heap.size w w' := by
  have := Kk.host_any s.data.toList h.data.toList w (okS_len g1) (okS_len g2)
  rw [ba_back, ba_back] at this
  exact this
theorem rhostp_any (s h : ByteArray) (w : World) (g1 : okS s) (g2 : okS h) : Calls Try.prog 9 #[.string s, .string h] w fun e w' => e = .returned (.bool (takB s h)) ∧ Below w.heap.size w w' := by
  have := Kk.rhost_any s.data.toList h.data.toList w (okS_len g1) (okS_len g2)
  rw [ba_back, ba_back] at this
  exact this
/-- the first host that takes it -/
def finF (l : List Ho) (h : ByteArray) : Option Nat := l.findIdx? (fun o => takB o.ho h)
def finA (o : Option Nat) : Int := match o with | some i => (i : Int) | none => 0
theorem finF_at {l : List Ho} {h : ByteArray} {i : Nat} {o : Ho} (h1 : ∀ (j : Nat) (y : Ho), j < i → l[j]? = some y → takB y.ho h = false) (h2 : l[i]? = some o) (h3 : takB o.ho h = true) : finF l h = some i := by
  unfold finF
  have hi := List.getElem?_eq_some_iff.1 h2
  exact List.findIdx?_eq_some_iff_getElem.2 ⟨hi.1, by rw [hi.2]; exact h3, fun j hj => by have := h1 j (l[j]'(by have := hi.1; omega)) hj (List.getElem?_eq_getElem _); simp [this]⟩
theorem finF_no {l : List Ho} {h : ByteArray} (h1 : ∀ (j : Nat) (y : Ho), l[j]? = some y → takB y.ho h = false) : finF l h = none := by
  unfold finF
  exact List.findIdx?_eq_none_iff.2 (fun x hx => by obtain ⟨j, hj⟩ := List.getElem?_of_mem hx; exact h1 j x hj)
/-- what Find tells -/
def FiE (w : World) (o : Option Nat) (e : Ending) (w' : World) : Prop := e = .returned (.tuple #[.int .i64 (finA o), .bool o.isSome]) ∧ Below w.heap.size w w'
theorem three_of {W : World} {b : Nat} {x0 x1 x2 : Value} {t : TypeId} (h : W.heap[b]? = some (.cells #[x0, x1, x2] t (0, 0))) : W.cell? ⟨b, 1, none⟩ = some x1 := by rw [cell_block h]; rfl
set_option maxHeartbeats 8000000 in
theorem find_any (w : World) (t : Tb) (s : ByteArray) (ht : Tin w t) (hs : okS s) :
    Calls Try.prog 4 #[.agg #[.int .i64 t.ver, .slice t.ha t.hos.length t.hc, .slice t.sa t.svs.length t.sc], .string s] w fun e w' => FiE w (finF t.hos s) e w' := by
  have HT := hideL ht
  obtain ⟨n, hn⟩ : ∃ n, t.hos.length = n := ⟨_, rfl⟩
  have hl : n ≤ 140737488355328 := by rw [← hn]; exact ht.lh
  have HN := hideL hn
  obtain ⟨A, hA⟩ : ∃ A, finF t.hos s = A := ⟨_, rfl⟩
  have HAA := hideL hA
  rw [hn, hA]
  clear ht hn hA
  obtain ⟨w1, hw1⟩ : ∃ X, w.alloc (.cells #[.int .i64 t.ver, .slice t.ha n t.hc, .slice t.sa t.svs.length t.sc] 25 (0, 0)) = X := ⟨_, rfl⟩
  have HG1 : Hid (Gr w w1) := by rw [← hw1]; exact Gr.alloc _ _
  have HX1 : Hid (w1.heap[w.heap.size]? = some (.cells #[.int .i64 t.ver, .slice t.ha n t.hc, .slice t.sa t.svs.length t.sc] 25 (0, 0))) := by rw [← hw1]; exact heap_alloc_new w _
  have p1 := three_of HX1.out
  have HP1 := hideL p1
  go_enter Try.func4, Try.ntmps4
  go_wp2_with fail
  go_loopw [11] (fun u wr => ∃ (i : Nat), u = .int .i64 i ∧ i ≤ n ∧ Below w1.heap.size w1 wr ∧ Hid (∀ (j : Nat) (y : Ho), j < i → t.hos[j]? = some y → takB y.ho s = false)) (fun u _ => n - (intOf u).toNat)
  case atStart => exact ⟨0, rfl, by omega, Below.refl _ _, fun j y hj => by omega⟩
  case round =>
    obtain ⟨i, rfl, hi, hbel, HF⟩ := hrel
    have HB := hideL hbel
    clear hbel
    replace p1 := cell_of_below HB.out HP1.out
    have HBW := hideL (HG1.out.below.trans (HB.out.mono HG1.out.below.size))
    have i0 : (0 : Int) ≤ i := by omega
    by_cases h3 : i < n
    · have h3' : (i : Int) < n := by omega
      rcases hki : t.hos[i]? with _ | o
      · have := List.getElem?_eq_none_iff.1 hki; have := HN.out; omega
      obtain ⟨g, off, ea, hcx⟩ := (HT.out.hs.below HBW.out).at_ hki
      have c0 := hcx 0 _ rfl
      have c1 := hcx 1 _ rfl
      have c2 := hcx 2 _ rfl
      have c3 := hcx 3 _ rfl
      rw [Nat.add_zero] at c0
      rw [ea] at p1 ⊢
      have HK := hideL hki
      have HO := hideL (HT.out.each o (List.mem_of_getElem? hki)).sz
      clear hki hcx
      obtain ⟨bb, hbb⟩ : ∃ bb, takB o.ho s = bb := ⟨_, rfl⟩
      have HBB := hideL hbb
      have HC : Hid (∀ W, Calls Try.prog 8 #[.string o.ho, .string s] W fun e w' => e = .returned (.bool bb) ∧ Below W.heap.size W w') := fun W => by rw [← hbb]; exact hostp_any o.ho s W HO.out hs
      clear hbb
      go_wp2_with fail
      refine (HC.out _).mono ?_
      rintro e w3 ⟨rfl, hb3⟩
      have HB3 := hideL (HB.out.trans ((((Gr.alloc wr _).below.trans (hb3.mono (Gr.alloc wr _).below.size))).mono HB.out.size))
      clear hb3
      cases bb
      · go_wp2_with fail
        go_roundw
        case rel => exact ⟨i + 1, by go_num, by omega, HB3.out, fun j y hj hy => by
          by_cases hji : j < i
          · exact HF.out j y hji hy
          · obtain rfl : j = i := by omega
            rw [HK.out] at hy; cases hy; exact HBB.out⟩
        case measure => simp [intOf]; omega
      · have HR : Hid (A = some i) := by unfold Hid; rw [← HAA.out]; exact finF_at HF.out HK.out HBB.out
        go_wp2
        go_ret2
        exact ⟨by rw [HR.out]; rfl, HG1.out.below.trans (HB3.out.mono HG1.out.below.size)⟩
    · have h3' : ¬ (i : Int) < n := by omega
      have HR : Hid (A = none) := by
        unfold Hid; rw [← HAA.out]
        exact finF_no (fun j y hy => HF.out j y (by have := (List.getElem?_eq_some_iff.1 hy).1; have := HN.out; omega) hy)
      go_wp2
      go_ret2
      exact ⟨by rw [HR.out]; rfl, HBW.out⟩
set_option maxHeartbeats 8000000 in
theorem rfind_any (w : World) (t : Tb) (s : ByteArray) (ht : Tin w t) (hs : okS s) :
    Calls Try.prog 5 #[.agg #[.int .i64 t.ver, .slice t.ha t.hos.length t.hc, .slice t.sa t.svs.length t.sc], .string s] w fun e w' => FiE w (finF t.hos s) e w' := by
  have HT := hideL ht
  obtain ⟨n, hn⟩ : ∃ n, t.hos.length = n := ⟨_, rfl⟩
  have hl : n ≤ 140737488355328 := by rw [← hn]; exact ht.lh
  have HN := hideL hn
  obtain ⟨A, hA⟩ : ∃ A, finF t.hos s = A := ⟨_, rfl⟩
  have HAA := hideL hA
  rw [hn, hA]
  clear ht hn hA
  obtain ⟨w1, hw1⟩ : ∃ X, w.alloc (.cells #[.int .i64 t.ver, .slice t.ha n t.hc, .slice t.sa t.svs.length t.sc] 25 (0, 0)) = X := ⟨_, rfl⟩
  have HG1 : Hid (Gr w w1) := by rw [← hw1]; exact Gr.alloc _ _
  have HX1 : Hid (w1.heap[w.heap.size]? = some (.cells #[.int .i64 t.ver, .slice t.ha n t.hc, .slice t.sa t.svs.length t.sc] 25 (0, 0))) := by rw [← hw1]; exact heap_alloc_new w _
  have p1 := three_of HX1.out
  have HP1 := hideL p1
  go_enter Try.func5, Try.ntmps5
  go_wp2_with fail
  go_loopw [6] (fun u wr => ∃ (i : Nat), u = .int .i64 i ∧ i ≤ n ∧ Below w1.heap.size w1 wr ∧ Hid (∀ (j : Nat) (y : Ho), j < i → t.hos[j]? = some y → takB y.ho s = false)) (fun u _ => n - (intOf u).toNat)
  case atStart => exact ⟨0, rfl, by omega, Below.refl _ _, fun j y hj => by omega⟩
  case round =>
    obtain ⟨i, rfl, hi, hbel, HF⟩ := hrel
    have HB := hideL hbel
    clear hbel
    replace p1 := cell_of_below HB.out HP1.out
    have HBW := hideL (HG1.out.below.trans (HB.out.mono HG1.out.below.size))
    have i0 : (0 : Int) ≤ i := by omega
    by_cases h3 : i < n
    · have h3' : (i : Int) < n := by omega
      rcases hki : t.hos[i]? with _ | o
      · have := List.getElem?_eq_none_iff.1 hki; have := HN.out; omega
      obtain ⟨g, off, ea, hcx⟩ := (HT.out.hs.below HBW.out).at_ hki
      have c0 := hcx 0 _ rfl
      have c1 := hcx 1 _ rfl
      have c2 := hcx 2 _ rfl
      have c3 := hcx 3 _ rfl
      rw [Nat.add_zero] at c0
      rw [ea] at p1 ⊢
      have HK := hideL hki
      have HO := hideL (HT.out.each o (List.mem_of_getElem? hki)).sz
      clear hki hcx
      obtain ⟨bb, hbb⟩ : ∃ bb, takB o.ho s = bb := ⟨_, rfl⟩
      have HBB := hideL hbb
      have HC : Hid (∀ W, Calls Try.prog 9 #[.string o.ho, .string s] W fun e w' => e = .returned (.bool bb) ∧ Below W.heap.size W w') := fun W => by rw [← hbb]; exact rhostp_any o.ho s W HO.out hs
      clear hbb
      go_wp2_with fail
      refine (HC.out _).mono ?_
      rintro e w3 ⟨rfl, hb3⟩
      have HB3 := hideL (HB.out.trans (((hb3)).mono HB.out.size))
      clear hb3
      cases bb
      · go_wp2_with fail
        go_roundw
        case rel => exact ⟨i + 1, by go_num, by omega, HB3.out, fun j y hj hy => by
          by_cases hji : j < i
          · exact HF.out j y hji hy
          · obtain rfl : j = i := by omega
            rw [HK.out] at hy; cases hy; exact HBB.out⟩
        case measure => simp [intOf]; omega
      · have HR : Hid (A = some i) := by unfold Hid; rw [← HAA.out]; exact finF_at HF.out HK.out HBB.out
        go_wp2
        go_ret2
        exact ⟨by rw [HR.out]; rfl, HG1.out.below.trans (HB3.out.mono HG1.out.below.size)⟩
    · have h3' : ¬ (i : Int) < n := by omega
      have HR : Hid (A = none) := by
        unfold Hid; rw [← HAA.out]
        exact finF_no (fun j y hy => HF.out j y (by have := (List.getElem?_eq_some_iff.1 hy).1; have := HN.out; omega) hy)
      go_wp2
      go_ret2
      exact ⟨by rw [HR.out]; rfl, HBW.out⟩
end Go.Proofs.Ytcihhcolgfaaiaa
