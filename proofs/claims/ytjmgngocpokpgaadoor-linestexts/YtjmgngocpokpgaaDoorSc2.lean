/-
  The document's own reader: plain scalars.
-/
import Derived.Test.YtjmgngocpokpgaaDoorScn
namespace Go.Proofs.YtjmgngocpokpgaaDoor
open Go.RowKit
set_option linter.unusedVariables false
set_option linter.unusedSimpArgs false
theorem end_step {l : List UInt8} {k : Nat} {x : UInt8} (h : l[k]? = some x) (p e : Nat) : endG (l.drop k) p e = if x = 32 ∧ l[k + 1]? = some 35 then e else endG (l.drop (k + 1)) (p + 1) (if x = 32 then e else p + 1) := by
  rw [drop_cons h, endG, List.head?_drop]
/-- A colon at a place, as the document looks for it. -/
def Hit (l : List UInt8) (X j : Nat) : Prop := l[j]? = some 58 ∧ (j + 1 = X ∨ l[j + 1]? = some 32)
theorem col_hit {l : List UInt8} {i E X : Nat} (hX : X = i + E) (hl : X ≤ l.length) : ColB ((l.drop i).take E) ↔ ∃ j, i ≤ j ∧ j < X ∧ Hit l X j := by
  have hlen : ((l.drop i).take E).length = E := by simp; omega
  constructor
  · rintro ⟨k, h1, h2⟩
    have hk : k < E := by have := (List.getElem?_eq_some_iff.1 h1).1; omega
    rw [List.getElem?_take_of_lt hk, List.getElem?_drop] at h1
    refine ⟨i + k, by omega, by omega, h1, ?_⟩
    rcases h2 with h2 | h2
    · exact .inl (by omega)
    · have hk2 : k + 1 < E := by have := (List.getElem?_eq_some_iff.1 h2).1; omega
      rw [List.getElem?_take_of_lt hk2, List.getElem?_drop] at h2
      exact .inr h2
  · rintro ⟨j, h1, h2, h3, h4⟩
    refine ⟨j - i, ?_, ?_⟩
    · rw [List.getElem?_take_of_lt (by omega), List.getElem?_drop, show i + (j - i) = j by omega]
      exact h3
    · by_cases hj : j + 1 = X
      · exact .inl (by omega)
      · rcases h4 with h4 | h4
        · exact absurd h4 hj
        · refine .inr ?_
          rw [List.getElem?_take_of_lt (by omega), List.getElem?_drop, show i + (j - i + 1) = j + 1 by omega]
          exact h4
set_option maxRecDepth 100000 in
set_option maxHeartbeats 8000000 in
theorem scalar_p (v : Value) (T : List Tk) (B : Nat) (l : List UInt8) (i : Nat) (n : Int) (c : UInt8) (r : List UInt8) (w : World) (hs : l.length ≤ 2 ^ 40) (hd : l.drop i = c :: r) (hq : quoF (c.toNat : Int) = false) (hc32 : ¬ c = 32) (hc35 : ¬ (c.toNat : Int) = 35) (hT : T.length ≤ 2 ^ 36) (hB : B ≤ w.heap.size) (hrow : w.ownsRow B 40 5 v T.length (T.flatMap Tk.row)) :
    Calls Tryd.prog 36 #[v, .string ⟨l.toArray⟩, .int .i64 i, .int .i64 n] w (ToksE w B (scaF n l i T)) := by
  obtain ⟨i40, hi40, hy0, hy1, hy2⟩ := info_parts Tryd.info40
  have ip : l[i]? = some c := by
    have : (l.drop i)[0]? = some c := by rw [hd]; rfl
    rwa [List.getElem?_drop, Nat.add_zero] at this
  have ej := ix_eq ip
  have hil := ix_lt ip
  have i0 : (0 : Int) ≤ i := by omega
  have hpl : (i : Int) < l.length := by omega
  have hq' := of_decide_eq_false hq
  have hc1 : ¬ (c.toNat : Int) = 34 := by omega
  have hc2 : ¬ (c.toNat : Int) = 39 := by omega
  have hc1b : ((c.toNat : Int) == 34) = false := by rw [beq_eq_false_iff_ne]; exact hc1
  have hc2b : ((c.toNat : Int) == 39) = false := by rw [beq_eq_false_iff_ne]; exact hc2
  have nr := nothing_ref l i w hs (by omega)
  have hov : ovrF (l.drop i) = false := by rw [hd]; simp [ovrF]; omega
  rw [hov] at nr
  have fr := first_ref l i c w hs ip
  have HS : Hid (scaF n l i T = match plnF (l.drop i) with | [] => ([], 83) | d :: t => (T ++ [⟨4, n, i, d :: t, false⟩], 0)) := by
    show _ = _
    unfold scaF
    rw [hd]
    dsimp only
    rw [hq, if_neg (by simp)]
    rcases plnF (c :: r) with _ | ⟨d, t⟩ <;> rfl
  have PR := pln_ref c r hc32
  rw [← hd] at PR
  obtain ⟨E, hE⟩ : ∃ E, endG (l.drop i) 0 0 = E := ⟨_, rfl⟩
  have hcut : cutF (l.drop i) = (l.drop i).take E := by rw [cutF_end, hE]
  have hE1 : 1 ≤ E := by rw [← hE, hd, end_one c r hc32]; exact endG_ge r 1 1 (Nat.le_refl _)
  have hEl : E ≤ l.length - i := by have := endG_le (l.drop i) 0 0 (Nat.le_refl _); rw [hE, List.length_drop] at this; omega
  obtain ⟨X, hX⟩ : ∃ X, i + E = X := ⟨_, rfl⟩
  have hXl : X ≤ l.length := by omega
  have hXi : i < X := by omega
  have hcol := col_hit hX.symm hXl
  rw [hcut] at PR
  rw [hcol] at PR
  have hxt := extract_mid l i X
  rw [show X - i = E by omega] at hxt
  obtain ⟨NT, hNT⟩ : ∃ N, T.length = N := ⟨_, rfl⟩
  rw [hNT] at hrow
  have hNTl : NT ≤ 2 ^ 36 := by omega
  have HROW := hide2 hrow
  have HNT := hide2 hNT
  have HPR := hide2 PR
  have HE := hide2 hE
  have HX := hide2 hX
  have HXT := hide2 hxt
  clear hrow hNT hov PR hE hcol hcut hxt hq' hX
  cases hf : fstF c (l.drop i) with
  | false =>
    have hp : plnF (l.drop i) = [] := HPR.out.2 (fun h => by rw [hf] at h; exact absurd h.1 (by simp))
    rw [hp] at HS
    rw [hf] at fr
    clear hd hp
    go_enter Tryd.func36, Tryd.ntmps36
    go_wp2_with first
      | (go_at_call 34; refine nr.mono ?_; rintro e w' ⟨rfl, hw'⟩; obtain rfl : w = w' := hw'.symm)
      | (go_at_call 55; refine fr.mono ?_; rintro e w' ⟨rfl, q, rfl⟩)
    refine bodyPost_ret (v := .tuple #[.slice none 0 0, .int .i64 83]) (by simp [results, Tryd.results36, go_sem]) rfl ?_
    exact ⟨_, by rw [HS.out], by rw [HS.out]; exact World.ownsRow_nil _ _ _ _, below_drewN (Below.refl _ _) q⟩
  | true =>
    rw [hf] at fr
    have HF := hide2 hf
    have HDR := hide2 hd
    clear hd hf
    go_enter Tryd.func36, Tryd.ntmps36
    go_wp2_with first
      | (go_at_call 34; refine nr.mono ?_; rintro e w' ⟨rfl, hw'⟩; obtain rfl : w = w' := hw'.symm)
      | (go_at_call 55; refine fr.mono ?_; rintro e w1 ⟨rfl, q, hw1⟩; have b1 : Below w.heap.size w w1 := hw1 ▸ below_drewN (Below.refl _ w) q; have HB1 := hide2 b1; clear hw1 b1)
    have HR1 : Hid (w1.ownsRow B 40 5 v NT (T.flatMap Tk.row)) := own_blk HROW.out (fun q hq => HB1.out.block q (HROW.out.lt q hq).2)
    have hs1 := HB1.out.size
    have hB1 : B ≤ w1.heap.size := by omega
    clear nr fr HROW
    go_loopw [13, 14] (fun u t wr => ∃ (k a e : Nat), t = .int .i64 k ∧ u = .int .i64 a ∧ a = i + e ∧ i ≤ k ∧ k ≤ l.length ∧ e ≤ k - i ∧ endG (l.drop k) (k - i) e = E ∧ wr = w1) (fun _ t _ => l.length - (intOf t).toNat)
    case atStart => exact ⟨i, i, 0, rfl, rfl, rfl, by omega, by omega, by omega, by rw [Nat.sub_self]; exact HE.out, rfl⟩
    case round =>
      obtain ⟨k, a, e, rfl, rfl, ha, hik, hkl, hek, hen, rfl⟩ := hrel
      have HEN := hide2 hen
      have HA := hide2 ha
      have hal : a ≤ k := by omega
      clear hen ha
      have k0 : (0 : Int) ≤ k := by omega
      have a0 : (0 : Int) ≤ a := by omega
      have hgo : ((l[k]? = none ∧ a = X) ∨ (l[k]? = some 32 ∧ l[k + 1]? = some 35 ∧ a = X)) ∨ ∃ x, l[k]? = some x ∧ ((x = 32 ∧ ¬ l[k + 1]? = some 35 ∧ endG (l.drop (k + 1)) (k + 1 - i) e = E) ∨ (¬ x = 32 ∧ endG (l.drop (k + 1)) (k + 1 - i) (k - i + 1) = E)) := by
        have hen := HEN.out
        have hX := HX.out
        have haa := HA.out
        rcases ik : l[k]? with _ | x
        · rw [List.drop_eq_nil_of_le (List.getElem?_eq_none_iff.1 ik), endG] at hen
          exact .inl (.inl ⟨rfl, by omega⟩)
        · rw [end_step ik] at hen
          have e1 : k + 1 - i = k - i + 1 := by omega
          by_cases h1 : x = 32
          · by_cases h2 : l[k + 1]? = some 35
            · rw [if_pos ⟨h1, h2⟩] at hen
              exact .inl (.inr ⟨by rw [h1], h2, by omega⟩)
            · rw [if_neg (fun h => h2 h.2), if_pos h1] at hen
              exact .inr ⟨x, rfl, .inl ⟨h1, h2, by rw [e1]; exact hen⟩⟩
          · rw [if_neg (fun h => h1 h.1), if_neg h1] at hen
            exact .inr ⟨x, rfl, .inr ⟨h1, by rw [e1]; exact hen⟩⟩
      rcases hgo with hex | ⟨x, ik, hcon⟩
      · have haX : a = X := by rcases hex with h | h; exact h.2; exact h.2.2
        subst haX
        rcases hex with ⟨ik, _⟩ | ⟨ik, ik1, _⟩
        · have kl := len_none ik
          have kl' : ¬ (k : Int) < l.length := by omega
          go_wp2_with fail
          obtain ⟨w2, hw2⟩ : ∃ W, W = wr := ⟨_, rfl⟩
          rw [← hw2] at HR1 HB1 hs1 hB1 ⊢
          clear hw2
          have hia : (i : Int) ≤ a := by omega
          have hal2 : (a : Int) ≤ l.length := by omega
          go_loopw [15] (fun t wr => ∃ m : Nat, t = .int .i64 m ∧ i ≤ m ∧ m ≤ a ∧ (∀ j, i ≤ j → j < m → ¬ Hit l a j) ∧ wr = w2) (fun t _ => a - (intOf t).toNat)
          case atStart => exact ⟨i, rfl, by omega, by omega, fun j h1 h2 => by omega, rfl⟩
          case round =>
            obtain ⟨m, rfl, him, hma, hno, rfl⟩ := hrel
            have HNO := hide2 hno
            clear hno
            have m0 : (0 : Int) ≤ m := by omega
            by_cases hm : m < a
            · have hm2 : (m : Int) < a := by omega
              have hml : m < l.length := by omega
              have hml2 : (m : Int) < l.length := by omega
              have iy : l[m]? = some l[m] := List.getElem?_eq_getElem hml
              generalize l[m] = y at iy
              have ey := ix_eq iy
              by_cases h58 : (y.toNat : Int) = 58
              · have y58 : y = 58 := UInt8.toNat_inj.1 (show y.toNat = UInt8.toNat 58 by show y.toNat = 58; omega)
                by_cases hm1 : m + 1 = a
                · have hp : plnF (l.drop i) = [] := HPR.out.2 (fun h => h.2.1 ⟨m, him, hm, by rw [iy, y58], .inl hm1⟩)
                  rw [hp] at HS
                  have hb : (((m : Int) + 1) == (a : Int)) = true := by rw [beq_iff_eq]; omega
                  clear hp hm1
                  go_wp2
                  refine bodyPost_ret (v := .tuple #[.slice none 0 0, .int .i64 83]) (by simp [results, Tryd.results36, go_sem]) rfl ?_
                  exact ⟨_, by rw [HS.out], by rw [HS.out]; exact World.ownsRow_nil _ _ _ _, HB1.out.mono hB⟩
                · have hb : (((m : Int) + 1) == (a : Int)) = false := by rw [beq_eq_false_iff_ne]; omega
                  have hm3 : m + 1 < l.length := by omega
                  have hm4 : (m : Int) + 1 < l.length := by omega
                  have hm5 : ((m : Int) + 1).toNat = m + 1 := by omega
                  have hm6 : ¬ (m : Int) + 1 = a := by omega
                  have iz : l[m + 1]? = some l[m + 1] := List.getElem?_eq_getElem hm3
                  generalize l[m + 1] = z at iz
                  have ez := ix_eq iz
                  by_cases h32 : (z.toNat : Int) = 32
                  · have z32 : z = 32 := UInt8.toNat_inj.1 (show z.toNat = UInt8.toNat 32 by show z.toNat = 32; omega)
                    have hp : plnF (l.drop i) = [] := HPR.out.2 (fun h => h.2.1 ⟨m, him, hm, by rw [iy, y58], .inr (by rw [iz, z32])⟩)
                    rw [hp] at HS
                    clear hp
                    go_wp2
                    refine bodyPost_ret (v := .tuple #[.slice none 0 0, .int .i64 83]) (by simp [results, Tryd.results36, go_sem]) rfl ?_
                    exact ⟨_, by rw [HS.out], by rw [HS.out]; exact World.ownsRow_nil _ _ _ _, HB1.out.mono hB⟩
                  · have hnh : ¬ Hit l a m := fun h => by
                      rcases h.2 with h | h
                      · exact hm1 h
                      · rw [iz] at h; cases h; exact h32 rfl
                    have hzb : ((z.toNat : Int) == 32) = false := by rw [beq_eq_false_iff_ne]; exact h32
                    go_wp2_with fail
                    go_roundw
                    case rel => exact ⟨m + 1, by go_num, by omega, by omega, fun j h1 h2 => by rcases Nat.lt_succ_iff_lt_or_eq.1 h2 with h | rfl; exact HNO.out j h1 h; exact hnh, trivial⟩
                    case measure => simp [intOf]; omega
              · have hnh : ¬ Hit l a m := fun h => by
                  have := h.1
                  rw [iy] at this; cases this; exact h58 rfl
                have hyb : ((y.toNat : Int) == 58) = false := by rw [beq_eq_false_iff_ne]; exact h58
                go_wp2_with fail
                go_roundw
                case rel => exact ⟨m + 1, by go_num, by omega, by omega, fun j h1 h2 => by rcases Nat.lt_succ_iff_lt_or_eq.1 h2 with h | rfl; exact HNO.out j h1 h; exact hnh, trivial⟩
                case measure => simp [intOf]; omega
            · have hm2 : ¬ (m : Int) < a := by omega
              have hnc : ¬ ∃ j, i ≤ j ∧ j < a ∧ Hit l a j := fun ⟨j, h1, h2, h3⟩ => HNO.out j h1 (by omega) h3
              have hxt := HXT.out
              by_cases h3 : (l.drop i).take E = [45, 45, 45]
              · have hp : plnF (l.drop i) = [] := HPR.out.2 (fun h => h.2.2 h3)
                rw [hp] at HS
                rw [h3] at hxt
                clear hp
                go_wp2
                refine bodyPost_ret (v := .tuple #[.slice none 0 0, .int .i64 83]) (by simp [results, Tryd.results36, go_sem]) rfl ?_
                exact ⟨_, by rw [HS.out], by rw [HS.out]; exact World.ownsRow_nil _ _ _ _, HB1.out.mono hB⟩
              · have hp : plnF (l.drop i) = (l.drop i).take E := HPR.out.1 ⟨HF.out, hnc, h3⟩
                obtain ⟨t0, ht0⟩ : ∃ t, (l.drop i).take E = t := ⟨_, rfl⟩
                have hne : ∃ d s, t0 = d :: s := by
                  rcases t0 with _ | ⟨d, s⟩
                  · have := congrArg List.length ht0
                    simp at this
                    omega
                  · exact ⟨d, s, rfl⟩
                rw [hp, ht0] at HS
                rw [ht0] at hxt h3
                have HS2 : Hid (scaF n l i T = (T ++ [⟨4, n, i, t0, false⟩], 0)) := by
                  obtain ⟨d, s, rfl⟩ := hne
                  exact HS.out
                have h3' : ¬ (ByteArray.mk t0.toArray) = ⟨#[45, 45, 45]⟩ := fun e => h3 (by have := congrArg (fun b => b.data.toList) e; simpa using this)
                have h3b : (t0 == [45, 45, 45]) = false := by rw [beq_eq_false_iff_ne]; exact h3
                clear hp HS hnc hne ht0
                go_wp2_with (at_builtin; refine wpList_append_form _ rfl (.tmp 127) (.tmp 135) 23 rfl B 40 i40 _ 5 48 Tryd.underlying23 hi40 hy0 hy1 hy2 rfl (by decide) v NT (T.flatMap Tk.row) rfl (HR1.out.alloc _) ⟨wr.heap.size, 0, none⟩ 1 1 ([(⟨4, n, i, t0, false⟩ : Tk)].flatMap Tk.row) rfl rfl (World.news_of_block (heap_alloc_new wr _)) (fun u hu => by obtain ⟨t, _, ht⟩ := List.mem_flatMap.1 hu; exact Tk.row_one t u ht) (by omega) (by unfold maxLen; omega) (by omega) (by simp; omega) ?_; intro g3 c3 w3 hown3 hgrow3; have HOW3 := hide2 hown3; have HGR3 := hide2 hgrow3; clear hown3 hgrow3)
                refine bodyPost_ret (v := .tuple #[.slice (some ⟨g3, 0, none⟩) (NT + 1) c3, .int .i64 0]) (by simp [results, Tryd.results36, go_sem]) rfl ?_
                exact toks_fin HS2.out HNT.out HB1.out hB HR1.out HOW3.out HGR3.out
        · have ek := ix_eq ik
          have ek1 := ix_eq ik1
          have kl := ix_lt ik
          have kl1 := ix_lt ik1
          have kl' : (k : Int) < l.length := by omega
          have kl2 : (k : Int) + 1 < l.length := by omega
          have kl3 : ((k : Int) + 1).toNat = k + 1 := by omega
          go_wp2_with fail
          obtain ⟨w2, hw2⟩ : ∃ W, W = wr := ⟨_, rfl⟩
          rw [← hw2] at HR1 HB1 hs1 hB1 ⊢
          clear hw2
          have hia : (i : Int) ≤ a := by omega
          have hal2 : (a : Int) ≤ l.length := by omega
          go_loopw [15] (fun t wr => ∃ m : Nat, t = .int .i64 m ∧ i ≤ m ∧ m ≤ a ∧ (∀ j, i ≤ j → j < m → ¬ Hit l a j) ∧ wr = w2) (fun t _ => a - (intOf t).toNat)
          case atStart => exact ⟨i, rfl, by omega, by omega, fun j h1 h2 => by omega, rfl⟩
          case round =>
            obtain ⟨m, rfl, him, hma, hno, rfl⟩ := hrel
            have HNO := hide2 hno
            clear hno
            have m0 : (0 : Int) ≤ m := by omega
            by_cases hm : m < a
            · have hm2 : (m : Int) < a := by omega
              have hml : m < l.length := by omega
              have hml2 : (m : Int) < l.length := by omega
              have iy : l[m]? = some l[m] := List.getElem?_eq_getElem hml
              generalize l[m] = y at iy
              have ey := ix_eq iy
              by_cases h58 : (y.toNat : Int) = 58
              · have y58 : y = 58 := UInt8.toNat_inj.1 (show y.toNat = UInt8.toNat 58 by show y.toNat = 58; omega)
                by_cases hm1 : m + 1 = a
                · have hp : plnF (l.drop i) = [] := HPR.out.2 (fun h => h.2.1 ⟨m, him, hm, by rw [iy, y58], .inl hm1⟩)
                  rw [hp] at HS
                  have hb : (((m : Int) + 1) == (a : Int)) = true := by rw [beq_iff_eq]; omega
                  clear hp hm1
                  go_wp2
                  refine bodyPost_ret (v := .tuple #[.slice none 0 0, .int .i64 83]) (by simp [results, Tryd.results36, go_sem]) rfl ?_
                  exact ⟨_, by rw [HS.out], by rw [HS.out]; exact World.ownsRow_nil _ _ _ _, HB1.out.mono hB⟩
                · have hb : (((m : Int) + 1) == (a : Int)) = false := by rw [beq_eq_false_iff_ne]; omega
                  have hm3 : m + 1 < l.length := by omega
                  have hm4 : (m : Int) + 1 < l.length := by omega
                  have hm5 : ((m : Int) + 1).toNat = m + 1 := by omega
                  have hm6 : ¬ (m : Int) + 1 = a := by omega
                  have iz : l[m + 1]? = some l[m + 1] := List.getElem?_eq_getElem hm3
                  generalize l[m + 1] = z at iz
                  have ez := ix_eq iz
                  by_cases h32 : (z.toNat : Int) = 32
                  · have z32 : z = 32 := UInt8.toNat_inj.1 (show z.toNat = UInt8.toNat 32 by show z.toNat = 32; omega)
                    have hp : plnF (l.drop i) = [] := HPR.out.2 (fun h => h.2.1 ⟨m, him, hm, by rw [iy, y58], .inr (by rw [iz, z32])⟩)
                    rw [hp] at HS
                    clear hp
                    go_wp2
                    refine bodyPost_ret (v := .tuple #[.slice none 0 0, .int .i64 83]) (by simp [results, Tryd.results36, go_sem]) rfl ?_
                    exact ⟨_, by rw [HS.out], by rw [HS.out]; exact World.ownsRow_nil _ _ _ _, HB1.out.mono hB⟩
                  · have hnh : ¬ Hit l a m := fun h => by
                      rcases h.2 with h | h
                      · exact hm1 h
                      · rw [iz] at h; cases h; exact h32 rfl
                    have hzb : ((z.toNat : Int) == 32) = false := by rw [beq_eq_false_iff_ne]; exact h32
                    go_wp2_with fail
                    go_roundw
                    case rel => exact ⟨m + 1, by go_num, by omega, by omega, fun j h1 h2 => by rcases Nat.lt_succ_iff_lt_or_eq.1 h2 with h | rfl; exact HNO.out j h1 h; exact hnh, trivial⟩
                    case measure => simp [intOf]; omega
              · have hnh : ¬ Hit l a m := fun h => by
                  have := h.1
                  rw [iy] at this; cases this; exact h58 rfl
                have hyb : ((y.toNat : Int) == 58) = false := by rw [beq_eq_false_iff_ne]; exact h58
                go_wp2_with fail
                go_roundw
                case rel => exact ⟨m + 1, by go_num, by omega, by omega, fun j h1 h2 => by rcases Nat.lt_succ_iff_lt_or_eq.1 h2 with h | rfl; exact HNO.out j h1 h; exact hnh, trivial⟩
                case measure => simp [intOf]; omega
            · have hm2 : ¬ (m : Int) < a := by omega
              have hnc : ¬ ∃ j, i ≤ j ∧ j < a ∧ Hit l a j := fun ⟨j, h1, h2, h3⟩ => HNO.out j h1 (by omega) h3
              have hxt := HXT.out
              by_cases h3 : (l.drop i).take E = [45, 45, 45]
              · have hp : plnF (l.drop i) = [] := HPR.out.2 (fun h => h.2.2 h3)
                rw [hp] at HS
                rw [h3] at hxt
                clear hp
                go_wp2
                refine bodyPost_ret (v := .tuple #[.slice none 0 0, .int .i64 83]) (by simp [results, Tryd.results36, go_sem]) rfl ?_
                exact ⟨_, by rw [HS.out], by rw [HS.out]; exact World.ownsRow_nil _ _ _ _, HB1.out.mono hB⟩
              · have hp : plnF (l.drop i) = (l.drop i).take E := HPR.out.1 ⟨HF.out, hnc, h3⟩
                obtain ⟨t0, ht0⟩ : ∃ t, (l.drop i).take E = t := ⟨_, rfl⟩
                have hne : ∃ d s, t0 = d :: s := by
                  rcases t0 with _ | ⟨d, s⟩
                  · have := congrArg List.length ht0
                    simp at this
                    omega
                  · exact ⟨d, s, rfl⟩
                rw [hp, ht0] at HS
                rw [ht0] at hxt h3
                have HS2 : Hid (scaF n l i T = (T ++ [⟨4, n, i, t0, false⟩], 0)) := by
                  obtain ⟨d, s, rfl⟩ := hne
                  exact HS.out
                have h3' : ¬ (ByteArray.mk t0.toArray) = ⟨#[45, 45, 45]⟩ := fun e => h3 (by have := congrArg (fun b => b.data.toList) e; simpa using this)
                have h3b : (t0 == [45, 45, 45]) = false := by rw [beq_eq_false_iff_ne]; exact h3
                clear hp HS hnc hne ht0
                go_wp2_with (at_builtin; refine wpList_append_form _ rfl (.tmp 127) (.tmp 135) 23 rfl B 40 i40 _ 5 48 Tryd.underlying23 hi40 hy0 hy1 hy2 rfl (by decide) v NT (T.flatMap Tk.row) rfl (HR1.out.alloc _) ⟨wr.heap.size, 0, none⟩ 1 1 ([(⟨4, n, i, t0, false⟩ : Tk)].flatMap Tk.row) rfl rfl (World.news_of_block (heap_alloc_new wr _)) (fun u hu => by obtain ⟨t, _, ht⟩ := List.mem_flatMap.1 hu; exact Tk.row_one t u ht) (by omega) (by unfold maxLen; omega) (by omega) (by simp; omega) ?_; intro g3 c3 w3 hown3 hgrow3; have HOW3 := hide2 hown3; have HGR3 := hide2 hgrow3; clear hown3 hgrow3)
                refine bodyPost_ret (v := .tuple #[.slice (some ⟨g3, 0, none⟩) (NT + 1) c3, .int .i64 0]) (by simp [results, Tryd.results36, go_sem]) rfl ?_
                exact toks_fin HS2.out HNT.out HB1.out hB HR1.out HOW3.out HGR3.out
      · have ek := ix_eq ik
        have kl := ix_lt ik
        have kl' : (k : Int) < l.length := by omega
        rcases hcon with ⟨rfl, hn, he⟩ | ⟨hx, he⟩
        · have HE2 := hide2 he
          rcases ik1 : l[k + 1]? with _ | y
          · have kl1 := len_none ik1
            have kl2 : ¬ (k : Int) + 1 < l.length := by omega
            clear hn he
            go_wp2_with fail
            go_roundw
            case rel => exact ⟨k + 1, a, e, by go_num, rfl, HA.out, by omega, by omega, by omega, HE2.out, trivial⟩
            case measure => simp [intOf]; omega
          · have ek1 := ix_eq ik1
            have kl1 := ix_lt ik1
            have kl2 : (k : Int) + 1 < l.length := by omega
            have kl3 : ((k : Int) + 1).toNat = k + 1 := by omega
            have hy : ¬ (y.toNat : Int) = 35 := fun h => hn (by rw [ik1, UInt8.toNat_inj.1 (show y.toNat = UInt8.toNat 35 by show y.toNat = 35; omega)])
            have hyb : ((y.toNat : Int) == 35) = false := by rw [beq_eq_false_iff_ne]; exact hy
            clear hn he
            go_wp2_with fail
            go_roundw
            case rel => exact ⟨k + 1, a, e, by go_num, rfl, HA.out, by omega, by omega, by omega, HE2.out, trivial⟩
            case measure => simp [intOf]; omega
        · have HE2 := hide2 he
          have hx2 : ¬ (x.toNat : Int) = 32 := fun h => hx (UInt8.toNat_inj.1 (show x.toNat = UInt8.toNat 32 by show x.toNat = 32; omega))
          have hxb : ((x.toNat : Int) == 32) = false := by rw [beq_eq_false_iff_ne]; exact hx2
          have hxc : ((x.toNat : Int) != 32) = true := by rw [bne_iff_ne]; exact hx2
          clear he
          go_wp2_with fail
          go_roundw
          case rel => exact ⟨k + 1, k + 1, k - i + 1, by go_num, by go_num, by omega, by omega, by omega, by omega, HE2.out, trivial⟩
          case measure => simp [intOf]; omega
end Go.Proofs.YtjmgngocpokpgaaDoor
