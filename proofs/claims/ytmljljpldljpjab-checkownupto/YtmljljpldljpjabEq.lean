/-
  Lists of texts, of rules, of targets compared.
-/
import Derived.Test.YtmljljpldljpjabCq
import Derived.BigQuiet
import Derived.Laws.Cover2
namespace Go.Proofs.Ytmljljpldljpjab
open Go.RowKit
set_option linter.unusedVariables false
set_option linter.unusedSimpArgs false
set_option maxRecDepth 100000
theorem ba_ne {a b : ByteArray} (h : ¬ a = b) : (a.toList == b.toList) = false := by
  rw [beq_eq_false_iff_ne, ByteArray.toList_eq, ByteArray.toList_eq]
  intro e
  obtain ⟨x⟩ := a
  obtain ⟨y⟩ := b
  exact h (congrArg ByteArray.mk (Array.toList_inj.1 e))
theorem eq_of_at {α : Type} {cs ds : List α} (hl : cs.length = ds.length) (h : ∀ (j : Nat) c d, j < cs.length → cs[j]? = some c → ds[j]? = some d → c = d) : cs = ds := by
  apply List.ext_getElem?
  intro j
  rcases hc : cs[j]? with _ | c
  · have := List.getElem?_eq_none_iff.1 hc
    exact (List.getElem?_eq_none_iff.2 (by omega)).symm
  · have hj := (List.getElem?_eq_some_iff.1 hc).1
    rcases hd : ds[j]? with _ | d
    · have := List.getElem?_eq_none_iff.1 hd; omega
    · rw [h j c d hj hc hd]
/-- a bool that tells whether -/
def Tells (e : Ending) (p : Prop) : Prop := ∃ b, e = .returned (.bool b) ∧ (b = true ↔ p)
theorem Tells.yes {p : Prop} (h : p) : Tells (.returned (.bool true)) p := ⟨true, rfl, by simp [h]⟩
theorem Tells.no {p : Prop} (h : ¬ p) : Tells (.returned (.bool false)) p := ⟨false, rfl, by simp [h]⟩
set_option maxHeartbeats 4000000 in
/-- slices.Equal of texts -/
theorem equalS_any (w : World) (a b : Option Addr) (n m c1 c2 : Nat) (cs ds : List ByteArray) (hn : cs.length = n) (hm : ds.length = m) (hl : n ≤ 1048576) (h1 : Cel w a 1 (cs.map strR)) (h2 : Cel w b 1 (ds.map strR)) :
    Calls Try.prog 34 #[.slice a n c1, .slice b m c2] w fun e w' => Tells e (cs = ds) ∧ Gr w w' := by
  have HN := hideL hn
  have HM := hideL hm
  have H1 := hideL h1
  have H2 := hideL h2
  clear hn hm h1 h2
  go_enter Try.func34, Try.ntmps34
  by_cases hnm : n = m
  · subst hnm
    go_wp2_with fail
    go_loopw [13] (fun t wr => ∃ (i : Nat), t = .int .i64 i ∧ i ≤ n ∧ (∃ q, wr = w.drewN q) ∧ Hid (∀ (j : Nat) c d, j < i → cs[j]? = some c → ds[j]? = some d → c = d)) (fun t _ => n - (intOf t).toNat)
    case atStart => exact ⟨0, rfl, by omega, ⟨0, rfl⟩, fun j c d hj _ => by omega⟩
    case round =>
      obtain ⟨i, rfl, hi, ⟨q, rfl⟩, HF⟩ := hrel
      have i0 : (0 : Int) ≤ i := by omega
      by_cases h3 : i < n
      · have h3' : (i : Int) < n := by omega
        rcases hki : cs[i]? with _ | k
        · have := List.getElem?_eq_none_iff.1 hki; have := HN.out; omega
        rcases hkj : ds[i]? with _ | k2
        · have := List.getElem?_eq_none_iff.1 hkj; have := HM.out; omega
        obtain ⟨g, off, rfl, hcx⟩ := H1.out.at_ hki
        obtain ⟨g', off', rfl, hcy⟩ := H2.out.at_ hkj
        have c0 := hcx 0 _ rfl
        have d0 := hcy 0 _ rfl
        rw [Nat.add_zero, Nat.mul_one] at c0 d0
        have HK := hideL hki
        have HJ := hideL hkj
        clear hki hkj hcx hcy
        by_cases he : k = k2
        · subst he
          go_wp2_with fail
          go_quiet (fail)
          go_wp2
          go_roundw
          case rel =>
            refine ⟨i + 1, by go_num, by omega, ⟨q + nq, rfl⟩, fun j c d hj hc hd => ?_⟩
            by_cases hji : j < i
            · exact HF.out j c d hji hc hd
            · obtain rfl : j = i := by omega
              rw [HK.out] at hc; rw [HJ.out] at hd
              cases hc; cases hd; rfl
          case measure => simp [intOf]; omega
        · have he' := ba_ne he
          have HE := hideL he
          clear he
          go_wp2_with fail
          go_quiet (fail)
          go_wp2
          go_ret
          refine ⟨Tells.no ?_, (Gr.drewN _ _).trans (Gr.drewN _ _)⟩
          rintro rfl
          have e1 := HK.out; rw [HJ.out] at e1; cases e1; exact HE.out rfl
      · have h3' : ¬ (i : Int) < n := by omega
        go_wp2
        go_ret
        exact ⟨Tells.yes (eq_of_at (by rw [HN.out, HM.out]) (fun j c d hj hc hd => HF.out j c d (by have := HN.out; omega) hc hd)), Gr.drewN _ _⟩
  · have hnm' : ¬ (n : Int) = m := by omega
    go_wp2
    go_ret
    exact ⟨Tells.no (fun h => hnm (by rw [← HN.out, ← HM.out, h])), Gr.refl _⟩
theorem neqR (r s : Ru) (h : (r.pa.toList == s.pa.toList && (r.me.toList == s.me.toList && (r.sp.toList == s.sp.toList && r.al == s.al))) = false) (W : World) : (binOp .neq 58 (.agg #[.string r.pa, .string r.me, .string r.sp, .bool r.al]) (.agg #[.string s.pa, .string s.me, .string s.sp, .bool s.al])).run Try.prog W = .ok (.bool true) W := by
  simp [go_sem]
  simpa using h
theorem ru_ne {r s : Ru} (h : ¬ r = s) : (r.pa.toList == s.pa.toList && (r.me.toList == s.me.toList && (r.sp.toList == s.sp.toList && r.al == s.al))) = false := by
  obtain ⟨a, b, c, d⟩ := r
  obtain ⟨a', b', c', d'⟩ := s
  dsimp only
  by_cases e1 : a = a'
  · by_cases e2 : b = b'
    · by_cases e3 : c = c'
      · have e4 : ¬ d = d' := by rintro rfl; exact h (by rw [e1, e2, e3])
        simp [e4]
      · simp [ba_ne e3]
    · simp [ba_ne e2]
  · simp [ba_ne e1]
set_option maxHeartbeats 8000000 in
/-- slices.Equal of rules -/
theorem equalR_any (w : World) (a b : Option Addr) (n m c1 c2 : Nat) (cs ds : List Ru) (hn : cs.length = n) (hm : ds.length = m) (hl : n ≤ 1048576) (h1 : Cel w a 4 (cs.map Ru.row)) (h2 : Cel w b 4 (ds.map Ru.row)) :
    Calls Try.prog 37 #[.slice a n c1, .slice b m c2] w fun e w' => Tells e (cs = ds) ∧ Gr w w' := by
  have HN := hideL hn
  have HM := hideL hm
  have H1 := hideL h1
  have H2 := hideL h2
  clear hn hm h1 h2
  go_enter Try.func37, Try.ntmps37
  by_cases hnm : n = m
  · subst hnm
    go_wp2_with fail
    go_loopw [13] (fun t wr => ∃ (i : Nat), t = .int .i64 i ∧ i ≤ n ∧ (∃ q, wr = w.drewN q) ∧ Hid (∀ (j : Nat) c d, j < i → cs[j]? = some c → ds[j]? = some d → c = d)) (fun t _ => n - (intOf t).toNat)
    case atStart => exact ⟨0, rfl, by omega, ⟨0, rfl⟩, fun j c d hj _ => by omega⟩
    case round =>
      obtain ⟨i, rfl, hi, ⟨q, rfl⟩, HF⟩ := hrel
      have i0 : (0 : Int) ≤ i := by omega
      by_cases h3 : i < n
      · have h3' : (i : Int) < n := by omega
        rcases hki : cs[i]? with _ | k
        · have := List.getElem?_eq_none_iff.1 hki; have := HN.out; omega
        rcases hkj : ds[i]? with _ | k2
        · have := List.getElem?_eq_none_iff.1 hkj; have := HM.out; omega
        obtain ⟨g, off, rfl, hcx⟩ := H1.out.at_ hki
        obtain ⟨g', off', rfl, hcy⟩ := H2.out.at_ hkj
        have c0 := hcx 0 _ rfl
        have c1 := hcx 1 _ rfl
        have c2 := hcx 2 _ rfl
        have c3 := hcx 3 _ rfl
        have d0 := hcy 0 _ rfl
        have d1 := hcy 1 _ rfl
        have d2 := hcy 2 _ rfl
        have d3 := hcy 3 _ rfl
        rw [Nat.add_zero] at c0 d0
        have HK := hideL hki
        have HJ := hideL hkj
        clear hki hkj hcx hcy
        by_cases he : k = k2
        · subst he
          go_wp2_with fail
          go_quiet (fail)
          go_wp2
          go_roundw
          case rel =>
            refine ⟨i + 1, by go_num, by omega, ⟨q + nq, rfl⟩, fun j c d hj hc hd => ?_⟩
            by_cases hji : j < i
            · exact HF.out j c d hji hc hd
            · obtain rfl : j = i := by omega
              rw [HK.out] at hc; rw [HJ.out] at hd
              cases hc; cases hd; rfl
          case measure => simp [intOf]; omega
        · have hq : ∀ W, (binOp .neq 58 (.agg #[.string k.pa, .string k.me, .string k.sp, .bool k.al]) (.agg #[.string k2.pa, .string k2.me, .string k2.sp, .bool k2.al])).run Try.prog W = .ok (.bool true) W := neqR _ _ (ru_ne he)
          have HE := hideL he
          clear he
          go_wp2_with fail
          go_quiet (fail)
          go_wp2
          go_ret
          refine ⟨Tells.no ?_, (Gr.drewN _ _).trans (Gr.drewN _ _)⟩
          rintro rfl
          have e1 := HK.out; rw [HJ.out] at e1; cases e1; exact HE.out rfl
      · have h3' : ¬ (i : Int) < n := by omega
        go_wp2
        go_ret
        exact ⟨Tells.yes (eq_of_at (by rw [HN.out, HM.out]) (fun j c d hj hc hd => HF.out j c d (by have := HN.out; omega) hc hd)), Gr.drewN _ _⟩
  · have hnm' : ¬ (n : Int) = m := by omega
    go_wp2
    go_ret
    exact ⟨Tells.no (fun h => hnm (by rw [← HN.out, ← HM.out, h])), Gr.refl _⟩
/-- reals that are equal -/
def feq (x y : Nat) : Bool := FloatKind.f64.format.order x y == some .eq
def swt (x y : Nat) : Bool := feq x y || (!feq x x && !feq y y)
theorem swt_refl (x : Nat) : swt x x = true := by unfold swt; cases feq x x <;> rfl
theorem weight_any (x y : Nat) (w : World) : Calls Try.prog 56 #[.float .f64 x, .float .f64 y] w fun e w' => e = .returned (.bool (swt x y)) ∧ w' = w := by
  have hE : swt x y = ((FloatKind.f64.format.order x y == some .eq) || ((FloatKind.f64.format.order x x != some .eq) && (FloatKind.f64.format.order y y != some .eq))) := rfl
  rw [hE]
  clear hE
  cases h1 : (FloatKind.f64.format.order x y == some .eq) <;> cases h2 : (FloatKind.f64.format.order x x != some .eq) <;> cases h3 : (FloatKind.f64.format.order y y != some .eq)
  all_goals
    go_enter Try.func56, Try.ntmps56
    go_wp2
    go_ret
    exact ⟨rfl, rfl⟩
structure TgEq (t u : Tg) : Prop where
  sv : t.sv = u.sv
  sp : t.sp = u.sp
  wt : swt t.wt u.wt = true
theorem TgEq.refl (t : Tg) : TgEq t t := ⟨rfl, rfl, swt_refl _⟩
set_option maxHeartbeats 4000000 in
theorem sameTg_any (w : World) (t u : Tg) : Calls Try.prog 36 #[t.val, u.val] w fun e w' => Tells e (TgEq t u) ∧ Gr w w' := by
  obtain ⟨sv, sp, wt⟩ := t
  obtain ⟨sv', sp', wt'⟩ := u
  unfold Tg.val
  dsimp only
  have hw := fun W => weight_any wt wt' W
  by_cases e0 : sv = sv'
  · subst e0
    by_cases e1 : sp = sp'
    · subst e1
      have hE : swt wt wt' = true ↔ TgEq ⟨sv, sp, wt⟩ ⟨sv, sp, wt'⟩ := ⟨fun h => ⟨rfl, rfl, h⟩, fun h => h.wt⟩
      generalize swt wt wt' = b at hw hE
      have HE := hideL hE
      clear hE
      go_enter Try.func36, Try.ntmps36
      go_wp2_with (go_at_call 56; refine (hw _).mono ?_; rintro e w1 ⟨rfl, hq⟩; have hq := hq.symm; subst hq)
      go_ret
      exact ⟨⟨b, rfl, HE.out⟩, (Gr.alloc _ _).trans (Gr.alloc _ _)⟩
    · have e1' := ba_ne e1
      have HE := hideL e1
      clear e1
      go_enter Try.func36, Try.ntmps36
      go_wp2
      go_ret
      exact ⟨Tells.no (fun h => HE.out h.sp), (Gr.alloc _ _).trans (Gr.alloc _ _)⟩
  · have e0' := ba_ne e0
    have HE := hideL e0
    clear e0
    go_enter Try.func36, Try.ntmps36
    go_wp2
    go_ret
    exact ⟨Tells.no (fun h => HE.out h.sv), (Gr.alloc _ _).trans (Gr.alloc _ _)⟩
/-- targets that are the same, one by one -/
def TgsEq (l r : List Tg) : Prop := l.length = r.length ∧ ∀ (j : Nat) o p, l[j]? = some o → r[j]? = some p → TgEq o p
theorem TgsEq.refl (l : List Tg) : TgsEq l l := ⟨rfl, fun j o p h g => by rw [h] at g; cases g; exact TgEq.refl _⟩
end Go.Proofs.Ytmljljpldljpjab
