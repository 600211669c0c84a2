/- Views compared: isSame, EqualFunc, become. -/
import Derived.Test.YtidpglbokpgpbaaRa
import Derived.Laws.Cover2
import Derived.Deep.RegionWith
namespace Go.Proofs.Ytidpglbokpgpbaa
open Go.RowKit
set_option linter.unusedVariables false
set_option linter.unusedSimpArgs false
set_option maxRecDepth 100000
theorem ba_ne {a b : ByteArray} (h : ¬ a = b) : (a.toList == b.toList) = false := by
  rw [beq_eq_false_iff_ne, ByteArray.toList_eq, ByteArray.toList_eq]
  intro e
  obtain ⟨x⟩ := a
  obtain ⟨y⟩ := b
  exact h (congrArg ByteArray.mk (Array.toList_inj.1 e))
theorem eq_of_at {α : Type} {cs ds : List α} (hl : cs.length = ds.length) (h : ∀ (j : Nat) c d, j < cs.length → cs[j]? = some c → ds[j]? = some d → c = d) : cs = ds := by
  apply List.ext_getElem?
  intro j
  rcases hc : cs[j]? with _ | c
  · have := List.getElem?_eq_none_iff.1 hc
    exact (List.getElem?_eq_none_iff.2 (by omega)).symm
  · have hj := (List.getElem?_eq_some_iff.1 hc).1
    rcases hd : ds[j]? with _ | d
    · have := List.getElem?_eq_none_iff.1 hd; omega
    · rw [h j c d hj hc hd]
/-- a bool that tells whether -/
def Tells (e : Ending) (p : Prop) : Prop := ∃ b, e = .returned (.bool b) ∧ (b = true ↔ p)
theorem Tells.yes {p : Prop} (h : p) : Tells (.returned (.bool true)) p := ⟨true, rfl, by simp [h]⟩
theorem Tells.no {p : Prop} (h : ¬ p) : Tells (.returned (.bool false)) p := ⟨false, rfl, by simp [h]⟩
set_option maxHeartbeats 4000000 in
/-- slices.Equal of texts -/
theorem equalS_any (w : World) (a b : Option Addr) (n m c1 c2 : Nat) (cs ds : List ByteArray) (hn : cs.length = n) (hm : ds.length = m) (hl : n ≤ 1048576) (h1 : Cel w a 1 (cs.map strR)) (h2 : Cel w b 1 (ds.map strR)) :
    Calls Try.prog 65 #[.slice a n c1, .slice b m c2] w fun e w' => Tells e (cs = ds) ∧ Gr w w' := by
  have HN := hideL hn
  have HM := hideL hm
  have H1 := hideL h1
  have H2 := hideL h2
  clear hn hm h1 h2
  go_enter Try.func65, Try.ntmps65
  by_cases hnm : n = m
  · subst hnm
    go_wp2_with fail
    go_loopw [13] (fun t wr => ∃ (i : Nat), t = .int .i64 i ∧ i ≤ n ∧ (∃ q, wr = w.drewN q) ∧ Hid (∀ (j : Nat) c d, j < i → cs[j]? = some c → ds[j]? = some d → c = d)) (fun t _ => n - (intOf t).toNat)
    case atStart => exact ⟨0, rfl, by omega, ⟨0, rfl⟩, fun j c d hj _ => by omega⟩
    case round =>
      obtain ⟨i, rfl, hi, ⟨q, rfl⟩, HF⟩ := hrel
      have i0 : (0 : Int) ≤ i := by omega
      by_cases h3 : i < n
      · have h3' : (i : Int) < n := by omega
        rcases hki : cs[i]? with _ | k
        · have := List.getElem?_eq_none_iff.1 hki; have := HN.out; omega
        rcases hkj : ds[i]? with _ | k2
        · have := List.getElem?_eq_none_iff.1 hkj; have := HM.out; omega
        obtain ⟨g, off, rfl, hcx⟩ := H1.out.at_ hki
        obtain ⟨g', off', rfl, hcy⟩ := H2.out.at_ hkj
        have c0 := hcx 0 _ rfl
        have d0 := hcy 0 _ rfl
        rw [Nat.add_zero, Nat.mul_one] at c0 d0
        have HK := hideL hki
        have HJ := hideL hkj
        clear hki hkj hcx hcy
        by_cases he : k = k2
        · subst he
          go_wp2_with fail
          go_quiet (fail)
          go_wp2
          go_roundw
          case rel =>
            refine ⟨i + 1, by go_num, by omega, ⟨q + nq, rfl⟩, fun j c d hj hc hd => ?_⟩
            by_cases hji : j < i
            · exact HF.out j c d hji hc hd
            · obtain rfl : j = i := by omega
              rw [HK.out] at hc; rw [HJ.out] at hd
              cases hc; cases hd; rfl
          case measure => simp [intOf]; omega
        · have he' := ba_ne he
          have HE := hideL he
          clear he
          go_wp2_with fail
          go_quiet (fail)
          go_wp2
          go_ret
          refine ⟨Tells.no ?_, (Gr.drewN _ _).trans (Gr.drewN _ _)⟩
          rintro rfl
          have e1 := HK.out; rw [HJ.out] at e1; cases e1; exact HE.out rfl
      · have h3' : ¬ (i : Int) < n := by omega
        go_wp2
        go_ret
        exact ⟨Tells.yes (eq_of_at (by rw [HN.out, HM.out]) (fun j c d hj hc hd => HF.out j c d (by have := HN.out; omega) hc hd)), Gr.drewN _ _⟩
  · have hnm' : ¬ (n : Int) = m := by omega
    go_wp2
    go_ret
    exact ⟨Tells.no (fun h => hnm (by rw [← HN.out, ← HM.out, h])), Gr.refl _⟩
theorem Tells.iff {e : Ending} {p q : Prop} (h : Tells e p) (g : p ↔ q) : Tells e q := by obtain ⟨b, h1, h2⟩ := h; exact ⟨b, h1, h2.trans g⟩
set_option maxHeartbeats 4000000 in
theorem isSame_any (w : World) (B C : Nat) (a b : Hx) (ha : Oh w B a) (hb : Oh w C b) :
    Calls Try.prog 49 #[a.val, b.val] w fun e w' => Tells e (a.says = b.says) ∧ Gr w w' := by
  have HA := hideL ha
  have HB := hideL hb
  clear ha hb
  obtain ⟨s1, e1, a1, k1⟩ := a
  obtain ⟨s2, e2, a2, k2⟩ := b
  unfold Hx.val Hx.says
  dsimp only
  have HC1 := hideL HA.out.cel
  have HC2 := hideL HB.out.cel
  have HL : Hid (e1.length ≤ 1048576) := hideL HA.out.le
  clear HA HB
  obtain ⟨n, hn⟩ : ∃ n, e1.length = n := ⟨_, rfl⟩
  obtain ⟨m, hm⟩ : ∃ m, e2.length = m := ⟨_, rfl⟩
  have HN := hideL hn
  have HM := hideL hm
  rw [hn, hm]
  clear hn hm
  go_enter Try.func49, Try.ntmps49
  by_cases hs : s1 = s2
  · subst hs
    go_wp2_with (go_at_call 65; refine (equalS_any _ a1 a2 n m k1 k2 e1 e2 HN.out HM.out (by have := HL.out; have := HN.out; omega) (HC1.out.below ((Gr.alloc _ _).trans (Gr.alloc _ _)).below) (HC2.out.below ((Gr.alloc _ _).trans (Gr.alloc _ _)).below)).mono ?_; rintro e w2 ⟨⟨b, rfl, hb⟩, hg⟩; have HR := hideL hb; have HG := hideL hg; clear hb hg)
    go_ret
    refine ⟨⟨b, ?_, ?_⟩, ((Gr.alloc _ _).trans (Gr.alloc _ _)).trans HG.out⟩
    · cases b <;> rfl
    · rw [HR.out]; simp
  · have hs' := ba_ne hs
    have HS := hideL hs
    clear hs
    go_wp2
    go_ret
    exact ⟨Tells.no (fun h => HS.out h.1), (Gr.alloc _ _).trans (Gr.alloc _ _)⟩
/-- the same views -/
def sayL (l : List Hx) : List (ByteArray × List ByteArray) := l.map Hx.says
theorem Ov.at_ {W : World} {base : Nat} {e : TypeId} {a : Option Addr} {n c : Nat} {os : List Hx} (h : Ov W base e (.slice a n c) os) {i : Nat} {o : Hx} (hi : os[i]? = some o) : ∃ g off, a = some ⟨g, off, none⟩ ∧ W.cell? ⟨g, off + i * 2, none⟩ = some (.string o.sv) ∧ W.cell? ⟨g, off + i * 2 + 1, none⟩ = some (.slice o.ea o.eps.length o.ec) := by
  obtain ⟨g, off, e, hc⟩ := h.cel.at_ hi
  exact ⟨g, off, e, by have := hc 0 _ rfl; rwa [Nat.add_zero] at this, hc 1 _ rfl⟩
set_option maxHeartbeats 8000000 in
theorem equalF_any (w : World) (B C : Nat) (e1 e2 : TypeId) (a b : Option Addr) (n m c1 c2 : Nat) (cs ds : List Hx) (hn : cs.length = n) (hm : ds.length = m) (h1 : Ov w B e1 (.slice a n c1) cs) (h2 : Ov w C e2 (.slice b m c2) ds) :
    Calls Try.prog 48 #[.slice a n c1, .slice b m c2, .func (.func 49) #[] #[]] w fun e w' => Tells e (sayL cs = sayL ds) ∧ Gr w w' := by
  have HN := hideL hn
  have HM := hideL hm
  have H1 := hideL h1
  have H2 := hideL h2
  have hl : n ≤ 1048576 := by rw [← hn]; exact h1.le
  clear hn hm h1 h2
  go_enter Try.func48, Try.ntmps48
  by_cases hnm : n = m
  · subst hnm
    go_wp2_with fail
    go_loopw [17] (fun t wr => ∃ (i : Nat), t = .int .i64 i ∧ i ≤ n ∧ Gr w wr ∧ Hid (∀ (j : Nat) c d, j < i → cs[j]? = some c → ds[j]? = some d → c.says = d.says)) (fun t _ => n - (intOf t).toNat)
    case atStart => exact ⟨0, rfl, by omega, Gr.refl _, fun j c d hj _ => by omega⟩
    case round =>
      obtain ⟨i, rfl, hi, hgr, HF⟩ := hrel
      have HG := hideL hgr
      clear hgr
      have i0 : (0 : Int) ≤ i := by omega
      by_cases h3 : i < n
      · have h3' : (i : Int) < n := by omega
        rcases hki : cs[i]? with _ | k
        · have := List.getElem?_eq_none_iff.1 hki; have := HN.out; omega
        rcases hkj : ds[i]? with _ | k2
        · have := List.getElem?_eq_none_iff.1 hkj; have := HM.out; omega
        have HX := hideL (H1.out.below HG.out.below)
        have HY := hideL (H2.out.below HG.out.below)
        obtain ⟨g, off, rfl, x0, x1⟩ := HX.out.at_ hki
        obtain ⟨g', off', rfl, y0, y1⟩ := HY.out.at_ hkj
        have HO := hideL (HX.out.each k (List.mem_of_getElem? hki))
        have HP := hideL (HY.out.each k2 (List.mem_of_getElem? hkj))
        have HK := hideL hki
        have HJ := hideL hkj
        have z0 : (wr.alloc (Obj.cells #[.string k.sv, .slice k.ea k.eps.length k.ec] 47)).cell? ⟨g', off' + i * 2, none⟩ = some (.string k2.sv) := cell_of_below (Gr.alloc _ _).below y0
        have z1 : (wr.alloc (Obj.cells #[.string k.sv, .slice k.ea k.eps.length k.ec] 47)).cell? ⟨g', off' + i * 2 + 1, none⟩ = some (.slice k2.ea k2.eps.length k2.ec) := cell_of_below (Gr.alloc _ _).below y1
        clear hki hkj y0 y1
        go_wp2_with (go_at_call 49; refine (isSame_any _ B C k k2 (HO.out.below ((Gr.alloc _ _).trans (Gr.alloc _ _)).below) (HP.out.below ((Gr.alloc _ _).trans (Gr.alloc _ _)).below)).mono ?_; rintro e w2 ⟨⟨b, rfl, hb⟩, hg⟩; have HR := hideL hb; have HG2 := hideL (HG.out.trans (((Gr.alloc _ _).trans (Gr.alloc _ _)).trans hg)); clear hb hg; cases b)
        · go_ret
          refine ⟨Tells.no (fun h => ?_), HG2.out⟩
          have h1 := congrArg (·[i]?) h
          unfold sayL at h1
          simp only [List.getElem?_map, HK.out, HJ.out, Option.map_some] at h1
          injection h1 with h1
          have := HR.out.2 h1
          cases this
        · go_roundw
          case rel =>
            refine ⟨i + 1, by go_num, by omega, HG2.out, fun j c d hj hc hd => ?_⟩
            by_cases hji : j < i
            · exact HF.out j c d hji hc hd
            · obtain rfl : j = i := by omega
              rw [HK.out] at hc; rw [HJ.out] at hd
              cases hc; cases hd
              exact HR.out.1 trivial
          case measure => simp [intOf]; omega
      · have h3' : ¬ (i : Int) < n := by omega
        go_wp2
        go_ret
        refine ⟨Tells.yes ?_, HG.out⟩
        unfold sayL
        refine eq_of_at (by rw [List.length_map, List.length_map, HN.out, HM.out]) (fun j c d hj hc hd => ?_)
        rw [List.getElem?_map] at hc hd
        obtain ⟨x, hx, rfl⟩ := Option.map_eq_some_iff.1 hc
        obtain ⟨y, hy, rfl⟩ := Option.map_eq_some_iff.1 hd
        exact HF.out j x y (by rw [List.length_map, HN.out] at hj; omega) hx hy
  · have hne : ¬ (n : Int) = m := by omega
    go_wp2
    go_ret
    exact ⟨Tells.no (fun h => hnm (by have := congrArg List.length h; unfold sayL at this; rw [List.length_map, List.length_map, HN.out, HM.out] at this; exact this)), Gr.refl _⟩
end Go.Proofs.Ytidpglbokpgpbaa
