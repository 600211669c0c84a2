/- The document's Same: the same views. -/
import Derived.Test.YtidpglbokpgpbaaTo
import Derived.BigQuiet
namespace Go.Proofs.Ytidpglbokpgpbaa
open Go.RowKit
set_option linter.unusedVariables false
set_option linter.unusedSimpArgs false
set_option maxRecDepth 100000
theorem dd (w : World) (q n : Nat) : ∃ r, (w.drewN q).drewN n = w.drewN r := ⟨q + n, drew_two _ _ _⟩
set_option maxHeartbeats 32000000 in
theorem rsame_any (w : World) (B C : Nat) (e1 e2 : TypeId) (a b : Option Addr) (n m c1 c2 : Nat) (cs ds : List Hx) (hn : cs.length = n) (hm : ds.length = m) (h1 : Ov w B e1 (.slice a n c1) cs) (h2 : Ov w C e2 (.slice b m c2) ds) :
    Calls Try.prog 12 #[.slice a n c1, .slice b m c2] w fun e w' => Tells e (sayL cs = sayL ds) ∧ ∃ q, w' = w.drewN q := by
  have HN := hideL hn
  have HM := hideL hm
  have H1 := hideL h1
  have H2 := hideL h2
  have hl : n ≤ 1048576 := by rw [← hn]; exact h1.le
  clear hn hm h1 h2
  go_enter Try.func12, Try.ntmps12
  by_cases hnm : n = m
  · subst hnm
    go_wp2_with fail
    go_loopw [5] (fun t wr => ∃ (i : Nat), t = .int .i64 i ∧ i ≤ n ∧ (∃ q, wr = w.drewN q) ∧ Hid (∀ (j : Nat) c d, j < i → cs[j]? = some c → ds[j]? = some d → c.says = d.says)) (fun t _ => n - (intOf t).toNat)
    case atStart => exact ⟨0, rfl, by omega, ⟨0, rfl⟩, fun j c d hj _ => by omega⟩
    case round =>
      obtain ⟨i, rfl, hi, ⟨q, rfl⟩, HF⟩ := hrel
      have i0 : (0 : Int) ≤ i := by omega
      by_cases h3 : i < n
      · have h3' : (i : Int) < n := by omega
        rcases hki : cs[i]? with _ | x
        · have := List.getElem?_eq_none_iff.1 hki; have := HN.out; omega
        rcases hkj : ds[i]? with _ | y
        · have := List.getElem?_eq_none_iff.1 hkj; have := HM.out; omega
        obtain ⟨g, off, rfl, x0, x1⟩ := H1.out.at_ hki
        obtain ⟨g', off', rfl, y0, y1⟩ := H2.out.at_ hkj
        have HX := hideL (H1.out.each x (List.mem_of_getElem? hki))
        have HY := hideL (H2.out.each y (List.mem_of_getElem? hkj))
        have HK := hideL hki
        have HJ := hideL hkj
        clear hki hkj
        obtain ⟨sx, ex, ax, kx⟩ := x
        obtain ⟨sy, ey, ay, ky⟩ := y
        dsimp only at x0 x1 y0 y1
        obtain ⟨lx, hlx⟩ : ∃ l, ex.length = l := (by first | exact ⟨_, rfl⟩ | exact dd _ _ _)
        obtain ⟨ly, hly⟩ : ∃ l, ey.length = l := (by first | exact ⟨_, rfl⟩ | exact dd _ _ _)
        have HLX := hideL hlx
        have HLY := hideL hly
        have hxb : lx ≤ 1048576 := hlx ▸ HX.out.le
        have HCX : Hid (Cel w ax 1 (ex.map strR)) := HX.out.cel
        have HCY : Hid (Cel w ay 1 (ey.map strR)) := HY.out.cel
        rw [hlx] at x1
        rw [hly] at y1
        clear hlx hly
        by_cases hs : sx = sy
        · subst hs
          by_cases hl2 : lx = ly
          · subst hl2
            go_wp2_with fail
            go_quiet (fail)
            go_wp2_with fail
            go_loopw [6] (fun t wr => ∃ (k : Nat), t = .int .i64 k ∧ k ≤ lx ∧ (∃ q, wr = w.drewN q) ∧ Hid (∀ (j : Nat) c d, j < k → ex[j]? = some c → ey[j]? = some d → c = d)) (fun t _ => lx - (intOf t).toNat)
            case atStart => exact ⟨0, rfl, by omega, (by first | exact ⟨_, rfl⟩ | exact dd _ _ _), fun j c d hj _ => by omega⟩
            case round =>
              obtain ⟨k, rfl, hk, ⟨q2, rfl⟩, HG⟩ := hrel
              have k0 : (0 : Int) ≤ k := by omega
              by_cases h4 : k < lx
              · have h4' : (k : Int) < lx := by omega
                rcases hk1 : ex[k]? with _ | s
                · have := List.getElem?_eq_none_iff.1 hk1; have := HLX.out; omega
                rcases hk2 : ey[k]? with _ | t
                · have := List.getElem?_eq_none_iff.1 hk2; have := HLY.out; omega
                obtain ⟨p, po, rfl, hcx⟩ := HCX.out.at_ hk1
                obtain ⟨p', po', rfl, hcy⟩ := HCY.out.at_ hk2
                have z0 := hcx 0 _ rfl
                have z1 := hcy 0 _ rfl
                rw [Nat.add_zero, Nat.mul_one] at z0 z1
                have HK1 := hideL hk1
                have HK2 := hideL hk2
                clear hk1 hk2 hcx hcy
                by_cases he : s = t
                · subst he
                  go_wp2_with fail
                  go_quiet (fail)
                  go_wp2
                  go_roundw
                  case rel =>
                    refine ⟨k + 1, by go_num, by omega, (by first | exact ⟨_, rfl⟩ | exact dd _ _ _), fun j c d hj hc hd => ?_⟩
                    by_cases hjk : j < k
                    · exact HG.out j c d hjk hc hd
                    · obtain rfl : j = k := by omega
                      rw [HK1.out] at hc; rw [HK2.out] at hd
                      cases hc; cases hd; rfl
                  case measure => simp [intOf]; omega
                · have he' := ba_ne he
                  have HE := hideL he
                  clear he
                  go_wp2_with fail
                  go_quiet (fail)
                  go_wp2
                  go_ret
                  refine ⟨Tells.no (fun h => ?_), (by first | exact ⟨_, rfl⟩ | exact dd _ _ _)⟩
                  have e1 := congrArg (·[i]?) h
                  unfold sayL at e1
                  simp only [List.getElem?_map, HK.out, HJ.out, Option.map_some] at e1
                  injection e1 with e1
                  have e2 : ex = ey := congrArg Prod.snd e1
                  subst e2
                  have := HK1.out; rw [HK2.out] at this
                  cases this; exact HE.out rfl
              · have h4' : ¬ (k : Int) < lx := by omega
                obtain rfl : k = lx := by omega
                go_wp2_with fail
                go_roundw
                case rel =>
                  refine ⟨i + 1, by go_num, by omega, (by first | exact ⟨_, rfl⟩ | exact dd _ _ _), fun j c d hj hc hd => ?_⟩
                  by_cases hji : j < i
                  · exact HF.out j c d hji hc hd
                  · obtain rfl : j = i := by omega
                    rw [HK.out] at hc; rw [HJ.out] at hd
                    cases hc; cases hd
                    have : ex = ey := eq_of_at (by rw [HLX.out, HLY.out]) (fun j c d hj hc hd => HG.out j c d (by have := HLX.out; omega) hc hd)
                    subst this; rfl
                case measure => simp [intOf]; omega
          · have hl2' : ¬ (lx : Int) = ly := by omega
            have HE := hideL hl2
            go_wp2_with fail
            go_quiet (fail)
            go_wp2
            go_ret
            refine ⟨Tells.no (fun h => ?_), (by first | exact ⟨_, rfl⟩ | exact dd _ _ _)⟩
            have e1 := congrArg (·[i]?) h
            unfold sayL at e1
            simp only [List.getElem?_map, HK.out, HJ.out, Option.map_some] at e1
            injection e1 with e1
            have e2 : ex = ey := congrArg Prod.snd e1
            subst e2
            exact HE.out (by rw [← HLX.out, ← HLY.out])
        · have hs' := ba_ne hs
          have HE := hideL hs
          clear hs
          go_wp2_with fail
          go_quiet (fail)
          go_wp2
          go_ret
          refine ⟨Tells.no (fun h => ?_), (by first | exact ⟨_, rfl⟩ | exact dd _ _ _)⟩
          have e1 := congrArg (·[i]?) h
          unfold sayL at e1
          simp only [List.getElem?_map, HK.out, HJ.out, Option.map_some] at e1
          injection e1 with e1
          exact HE.out (congrArg Prod.fst e1)
      · have h3' : ¬ (i : Int) < n := by omega
        go_wp2
        go_ret
        refine ⟨Tells.yes ?_, (by first | exact ⟨_, rfl⟩ | exact dd _ _ _)⟩
        unfold sayL
        refine eq_of_at (by rw [List.length_map, List.length_map, HN.out, HM.out]) (fun j c d hj hc hd => ?_)
        rw [List.getElem?_map] at hc hd
        obtain ⟨x, hx, rfl⟩ := Option.map_eq_some_iff.1 hc
        obtain ⟨y, hy, rfl⟩ := Option.map_eq_some_iff.1 hd
        exact HF.out j x y (by rw [List.length_map, HN.out] at hj; omega) hx hy
  · have hne : ¬ (n : Int) = m := by omega
    go_wp2
    go_ret
    exact ⟨Tells.no (fun h => hnm (by have := congrArg List.length h; unfold sayL at this; rw [List.length_map, List.length_map, HN.out, HM.out] at this; exact this)), ⟨0, rfl⟩⟩
end Go.Proofs.Ytidpglbokpgpbaa
