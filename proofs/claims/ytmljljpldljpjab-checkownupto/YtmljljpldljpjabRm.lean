/-
  The document's Same.
-/
import Derived.Test.YtmljljpldljpjabRk
import Derived.Test.YtmljljpldljpjabSa
import Derived.Deep.DeepCutAuto
import Derived.RegionTactic
namespace Go.Proofs.Ytmljljpldljpjab
open Go.RowKit
set_option linter.unusedVariables false
set_option linter.unusedSimpArgs false
set_option maxRecDepth 100000
theorem box3 {W : World} {b : Nat} {t : Tg} (h : W.heap[b]? = some (.cells #[.string t.sv, .string t.sp, .float .f64 t.wt] 46 (0, 0))) :
    W.cell? ⟨b, 0, none⟩ = some (.string t.sv) ∧ W.cell? ⟨b, 1, none⟩ = some (.string t.sp) ∧ W.cell? ⟨b, 2, none⟩ = some (.float .f64 t.wt) := by
  refine ⟨?_, ?_, ?_⟩ <;> (rw [cell_block h]; rfl)
set_option maxHeartbeats 32000000 in
theorem rsame_any (w : World) (o p : Rx) (ho : Rin w o) (hp : Rin w p) : Calls Try.prog 25 #[o.val, p.val] w fun e w' => Tells e (SameC o.toRs p.toRs) ∧ Gr w w' := by
  have HO := hideL ho
  have HP := hideL hp
  clear ho hp
  obtain ⟨wx, hwx⟩ : ∃ wx, ((w.alloc (boxO o)).alloc (boxO p)) = wx := ⟨_, rfl⟩
  have HT : Hid (Gr w wx) := by rw [← hwx]; exact (Gr.alloc _ _).trans (Gr.alloc _ _)
  have HBX : Hid (∀ W, Gr wx W → W.heap[w.heap.size]? = some (boxO o) ∧ W.heap[w.heap.size + 1]? = some (boxO p)) := fun W hW => ⟨hW.below.cells (by rw [← hwx]; exact blk1 _ _ _), hW.below.cells (by rw [← hwx]; exact blk2 _ _ _)⟩
  obtain ⟨c0, c1, c2, c3, c4, c5, c6, c7⟩ := box8 (HBX.out wx (Gr.refl _)).1
  obtain ⟨d0, d1, d2, d3, d4, d5, d6, d7⟩ := box8 (HBX.out wx (Gr.refl _)).2
  have HE : Hid (∀ a b : ByteArray, ¬ a = b → (a.toList == b.toList) = false) := fun a b h => ba_ne h
  unfold boxO at hwx
  go_enter Try.func25, Try.ntmps25
  unfold Rx.val
  go_wp2_with fail
  try rw [hwx]
  clear hwx
  refine (rkey_any _ o p).mono ?_
  rintro e w1 ⟨rfl, hg1⟩
  have HG1 := hideL hg1
  clear hg1 c0 c1 c2 c3 c4 c5 c6 c7 d0 d1 d2 d3 d4 d5 d6 d7
  obtain ⟨c0, c1, c2, c3, c4, c5, c6, c7⟩ := box8 (HBX.out w1 HG1.out).1
  obtain ⟨d0, d1, d2, d3, d4, d5, d6, d7⟩ := box8 (HBX.out w1 HG1.out).2
  by_cases hk : o.key = p.key
  · have HK := hideL hk
    rw [decide_eq_true hk]
    clear hk
    by_cases hh : o.host = p.host
    · have HH := hideL hh
      rw [hh] at c4
      clear hh
      by_cases hr : o.route = p.route
      · have HR := hideL hr
        rw [hr] at c6
        clear hr
        by_cases hd : o.del = p.del
        · have HD := hideL hd
          rw [hd] at c7
          clear hd
          by_cases h1 : o.eps.length = p.eps.length
          · by_cases h2 : o.tgs.length = p.tgs.length
            · by_cases h3 : o.rus.length = p.rus.length
              · have HL1 := hideL h1
                have HL2 := hideL h2
                have HL3 := hideL h3
                rw [h1] at c2
                rw [h2] at c3
                rw [h3] at c5
                clear h1 h2 h3
                have hle := HP.out.le
                have hlt := HP.out.lt
                have hlr := HP.out.lr
                go_wp2_with fail
                have HCL : Hid (∀ W, Gr wx W → W.cell? ⟨w.heap.size, 2, none⟩ = some (.slice o.ea p.eps.length o.ec) ∧ W.cell? ⟨w.heap.size, 3, none⟩ = some (.slice o.ta p.tgs.length o.tc) ∧ W.cell? ⟨w.heap.size, 5, none⟩ = some (.slice o.ra p.rus.length o.rc) ∧ W.cell? ⟨w.heap.size + 1, 2, none⟩ = some (.slice p.ea p.eps.length p.ec) ∧ W.cell? ⟨w.heap.size + 1, 3, none⟩ = some (.slice p.ta p.tgs.length p.tc) ∧ W.cell? ⟨w.heap.size + 1, 5, none⟩ = some (.slice p.ra p.rus.length p.rc)) := fun W hW => by
                  obtain ⟨-, -, a2, a3, -, a5, -, -⟩ := box8 (HBX.out W hW).1
                  obtain ⟨-, -, b2, b3, -, b5, -, -⟩ := box8 (HBX.out W hW).2
                  rw [HL1.out] at a2
                  rw [HL2.out] at a3
                  rw [HL3.out] at a5
                  exact ⟨a2, a3, a5, b2, b3, b5⟩
                clear c0 c1 c2 c3 c4 c5 c6 c7 d0 d1 d2 d3 d4 d5 d6 d7 HE
                go_loopw [5] (fun t wr => ∃ (i : Nat), t = .int .i64 i ∧ i ≤ p.eps.length ∧ Gr wx wr ∧ Hid (∀ (j : Nat) c d, j < i → o.eps[j]? = some c → p.eps[j]? = some d → c = d)) (fun t _ => p.eps.length - (intOf t).toNat)
                case atStart => exact ⟨0, rfl, by omega, HG1.out, fun j c d hj _ => by omega⟩
                case round =>
                  obtain ⟨i, rfl, hi, hgr, HF⟩ := hrel
                  have HG := hideL hgr
                  clear hgr
                  have i0 : (0 : Int) ≤ i := by omega
                  obtain ⟨c2, -, -, d2, -, -⟩ := HCL.out wr HG.out
                  by_cases h3 : i < p.eps.length
                  · have h3' : (i : Int) < p.eps.length := by omega
                    rcases hki : o.eps[i]? with _ | k
                    · have := List.getElem?_eq_none_iff.1 hki; have := HL1.out; omega
                    rcases hkj : p.eps[i]? with _ | k2
                    · have := List.getElem?_eq_none_iff.1 hkj; omega
                    obtain ⟨g, off, ea, hcx⟩ := (HO.out.es.below (HT.out.trans HG.out).below).at_ hki
                    obtain ⟨g', off', pa, hcy⟩ := (HP.out.es.below (HT.out.trans HG.out).below).at_ hkj
                    have e0 := hcx 0 _ rfl
                    have f0 := hcy 0 _ rfl
                    rw [Nat.add_zero, Nat.mul_one] at e0 f0
                    rw [ea] at c2
                    rw [pa] at d2
                    have HK1 := hideL hki
                    have HJ := hideL hkj
                    clear hki hkj hcx hcy ea pa
                    by_cases he : k = k2
                    · subst he
                      go_wp2_with fail
                      go_quiet (fail)
                      go_wp2
                      go_roundw
                      case rel =>
                        refine ⟨i + 1, by go_num, by omega, HG.out.trans (Gr.drewN _ _), fun j c d hj hc hd => ?_⟩
                        by_cases hji : j < i
                        · exact HF.out j c d hji hc hd
                        · obtain rfl : j = i := by omega
                          rw [HK1.out] at hc; rw [HJ.out] at hd
                          cases hc; cases hd; rfl
                      case measure => simp [intOf]; omega
                    · have he' := ba_ne he
                      have HNE : Hid (¬ SameC o.toRs p.toRs) := fun h => he (by
                        have e1 := HK1.out; rw [h.eps, HJ.out] at e1; cases e1; rfl)
                      clear he
                      go_wp2_with fail
                      go_quiet (fail)
                      go_wp2
                      go_ret
                      exact ⟨Tells.no HNE.out, (HT.out.trans HG.out).trans (Gr.drewN _ _)⟩
                  · have h3' : ¬ (i : Int) < p.eps.length := by omega
                    have HE1 : Hid (o.eps = p.eps) := eq_of_at HL1.out (fun j c d hj hc hd => HF.out j c d (by have := HL1.out; omega) hc hd)
                    clear HF
                    go_wp2_with fail
                    go_loopw [6] (fun t wr => ∃ (i : Nat), t = .int .i64 i ∧ i ≤ p.tgs.length ∧ Gr wx wr ∧ Hid (∀ (j : Nat) c d, j < i → o.tgs[j]? = some c → p.tgs[j]? = some d → TgEq c d)) (fun t _ => p.tgs.length - (intOf t).toNat)
                    case atStart => exact ⟨0, rfl, by omega, HG.out, fun j c d hj _ => by omega⟩
                    case round =>
                      clear HG c2 d2
                      obtain ⟨i2, rfl, hi2, hgr, HF⟩ := hrel
                      have HG := hideL hgr
                      clear hgr
                      have i20 : (0 : Int) ≤ i2 := by omega
                      obtain ⟨-, c3, -, -, d3, -⟩ := HCL.out wr HG.out
                      by_cases h4 : i2 < p.tgs.length
                      · have h4' : (i2 : Int) < p.tgs.length := by omega
                        rcases hki : o.tgs[i2]? with _ | k
                        · have := List.getElem?_eq_none_iff.1 hki; have := HL2.out; omega
                        rcases hkj : p.tgs[i2]? with _ | k2
                        · have := List.getElem?_eq_none_iff.1 hkj; omega
                        obtain ⟨g, off, ea, hcx⟩ := (HO.out.ts.below (HT.out.trans HG.out).below).at_ hki
                        obtain ⟨g', off', pa, hcy⟩ := (HP.out.ts.below (HT.out.trans HG.out).below).at_ hkj
                        have e0 := hcx 0 _ rfl
                        have e1 := hcx 1 _ rfl
                        have e2 := hcx 2 _ rfl
                        have f0 := hcy 0 _ rfl
                        have f1 := hcy 1 _ rfl
                        have f2 := hcy 2 _ rfl
                        rw [Nat.add_zero] at e0 f0
                        rw [ea] at c3
                        rw [pa] at d3
                        have HK1 := hideL hki
                        have HJ := hideL hkj
                        clear hki hkj hcx hcy ea pa
                        have st := st_float
                        go_upto_region 11 with fail
                        go_cut [7, 8] (fun t7 t8 wq => ∃ (p7 p8 : Nat), t7 = .pointer (some ⟨p7, 0, none⟩) ∧ t8 = .pointer (some ⟨p8, 0, none⟩) ∧ wq.heap[p7]? = some (.cells #[.string k.sv, .string k.sp, .float .f64 k.wt] 46 (0, 0)) ∧ wq.heap[p8]? = some (.cells #[.string k2.sv, .string k2.sp, .float .f64 k2.wt] 46 (0, 0)) ∧ Gr wr wq)
                        case first =>
                          have c3A : ∀ X, (wr.drew.alloc X).cell? ⟨w.heap.size, 3, none⟩ = some (.slice (some ⟨g, off, none⟩) p.tgs.length o.tc) := fun X => cell_of_below (Gr.below ((Gr.drewN wr 1).trans (Gr.alloc _ X))) c3
                          have d3A : ∀ X, (wr.drew.alloc X).cell? ⟨w.heap.size + 1, 3, none⟩ = some (.slice (some ⟨g', off', none⟩) p.tgs.length p.tc) := fun X => cell_of_below (Gr.below ((Gr.drewN wr 1).trans (Gr.alloc _ X))) d3
                          have e0A : ∀ X, (wr.drew.alloc X).cell? ⟨g, off + i2 * 3, none⟩ = some (.string k.sv) := fun X => cell_of_below (Gr.below ((Gr.drewN wr 1).trans (Gr.alloc _ X))) e0
                          have e1A : ∀ X, (wr.drew.alloc X).cell? ⟨g, off + i2 * 3 + 1, none⟩ = some (.string k.sp) := fun X => cell_of_below (Gr.below ((Gr.drewN wr 1).trans (Gr.alloc _ X))) e1
                          have e2A : ∀ X, (wr.drew.alloc X).cell? ⟨g, off + i2 * 3 + 2, none⟩ = some (.float .f64 k.wt) := fun X => cell_of_below (Gr.below ((Gr.drewN wr 1).trans (Gr.alloc _ X))) e2
                          have f0A : ∀ X, (wr.drew.alloc X).cell? ⟨g', off' + i2 * 3, none⟩ = some (.string k2.sv) := fun X => cell_of_below (Gr.below ((Gr.drewN wr 1).trans (Gr.alloc _ X))) f0
                          have f1A : ∀ X, (wr.drew.alloc X).cell? ⟨g', off' + i2 * 3 + 1, none⟩ = some (.string k2.sp) := fun X => cell_of_below (Gr.below ((Gr.drewN wr 1).trans (Gr.alloc _ X))) f1
                          have f2A : ∀ X, (wr.drew.alloc X).cell? ⟨g', off' + i2 * 3 + 2, none⟩ = some (.float .f64 k2.wt) := fun X => cell_of_below (Gr.below ((Gr.drewN wr 1).trans (Gr.alloc _ X))) f2
                          have c3B : ∀ X Y, ((wr.drew.alloc X).alloc Y).cell? ⟨w.heap.size, 3, none⟩ = some (.slice (some ⟨g, off, none⟩) p.tgs.length o.tc) := fun X Y => cell_of_below (Gr.below (((Gr.drewN wr 1).trans (Gr.alloc _ X)).trans (Gr.alloc _ Y))) c3
                          have d3B : ∀ X Y, ((wr.drew.alloc X).alloc Y).cell? ⟨w.heap.size + 1, 3, none⟩ = some (.slice (some ⟨g', off', none⟩) p.tgs.length p.tc) := fun X Y => cell_of_below (Gr.below (((Gr.drewN wr 1).trans (Gr.alloc _ X)).trans (Gr.alloc _ Y))) d3
                          have e0B : ∀ X Y, ((wr.drew.alloc X).alloc Y).cell? ⟨g, off + i2 * 3, none⟩ = some (.string k.sv) := fun X Y => cell_of_below (Gr.below (((Gr.drewN wr 1).trans (Gr.alloc _ X)).trans (Gr.alloc _ Y))) e0
                          have e1B : ∀ X Y, ((wr.drew.alloc X).alloc Y).cell? ⟨g, off + i2 * 3 + 1, none⟩ = some (.string k.sp) := fun X Y => cell_of_below (Gr.below (((Gr.drewN wr 1).trans (Gr.alloc _ X)).trans (Gr.alloc _ Y))) e1
                          have e2B : ∀ X Y, ((wr.drew.alloc X).alloc Y).cell? ⟨g, off + i2 * 3 + 2, none⟩ = some (.float .f64 k.wt) := fun X Y => cell_of_below (Gr.below (((Gr.drewN wr 1).trans (Gr.alloc _ X)).trans (Gr.alloc _ Y))) e2
                          have f0B : ∀ X Y, ((wr.drew.alloc X).alloc Y).cell? ⟨g', off' + i2 * 3, none⟩ = some (.string k2.sv) := fun X Y => cell_of_below (Gr.below (((Gr.drewN wr 1).trans (Gr.alloc _ X)).trans (Gr.alloc _ Y))) f0
                          have f1B : ∀ X Y, ((wr.drew.alloc X).alloc Y).cell? ⟨g', off' + i2 * 3 + 1, none⟩ = some (.string k2.sp) := fun X Y => cell_of_below (Gr.below (((Gr.drewN wr 1).trans (Gr.alloc _ X)).trans (Gr.alloc _ Y))) f1
                          have f2B : ∀ X Y, ((wr.drew.alloc X).alloc Y).cell? ⟨g', off' + i2 * 3 + 2, none⟩ = some (.float .f64 k2.wt) := fun X Y => cell_of_below (Gr.below (((Gr.drewN wr 1).trans (Gr.alloc _ X)).trans (Gr.alloc _ Y))) f2
                          go_region_held3 (fun w' => w'.cell? ⟨w.heap.size, 3, none⟩ = some (.slice (some ⟨g, off, none⟩) p.tgs.length o.tc) ∧ w'.cell? ⟨w.heap.size + 1, 3, none⟩ = some (.slice (some ⟨g', off', none⟩) p.tgs.length p.tc) ∧ w'.cell? ⟨g, off + i2 * 3, none⟩ = some (.string k.sv) ∧ w'.cell? ⟨g, off + i2 * 3 + 1, none⟩ = some (.string k.sp) ∧ w'.cell? ⟨g, off + i2 * 3 + 2, none⟩ = some (.float .f64 k.wt) ∧ w'.cell? ⟨g', off' + i2 * 3, none⟩ = some (.string k2.sv) ∧ w'.cell? ⟨g', off' + i2 * 3 + 1, none⟩ = some (.string k2.sp) ∧ w'.cell? ⟨g', off' + i2 * 3 + 2, none⟩ = some (.float .f64 k2.wt)) (go_keep) (fail)
                          · go_wp2_with fail
                            go_meet
                            case rel => exact ⟨wr.heap.size, wr.heap.size + 1, rfl, rfl, blk1 wr _ _, blk2 wr _ _, ((Gr.alloc wr _).trans (Gr.alloc _ _)).trans (Gr.drewN _ 1)⟩
                          · go_wp2_with fail
                            go_meet
                            case rel => exact ⟨wr.heap.size + 1, wr.heap.size, rfl, rfl, blk2 wr _ _, blk1 wr _ _, ((Gr.alloc wr _).trans (Gr.alloc _ _)).trans (Gr.drewN _ 1)⟩
                        case rest =>
                          obtain ⟨p7, p8, rfl, rfl, hb7, hb8, hgq⟩ := hcut
                          obtain ⟨a0, a1, a2⟩ := box3 hb7
                          obtain ⟨b0, b1, b2⟩ := box3 hb8
                          have HGQ := hideL (HG.out.trans hgq)
                          have HNX : Hid (¬ TgEq k k2 → ¬ SameC o.toRs p.toRs) := fun hn h => hn (h.tgs.2 i2 k k2 HK1.out HJ.out)
                          have HGO : Hid (TgEq k k2 → ∀ (j : Nat) c d, j < i2 + 1 → o.tgs[j]? = some c → p.tgs[j]? = some d → TgEq c d) := fun ht j c d hj hc hd => by
                            by_cases hji : j < i2
                            · exact HF.out j c d hji hc hd
                            · obtain rfl : j = i2 := by omega
                              rw [HK1.out] at hc; rw [HJ.out] at hd
                              cases hc; cases hd; exact ht
                          clear hb7 hb8 hgq HG HF HK1 HJ c3 d3 e0 e1 e2 f0 f1 f2 st
                          obtain ⟨sv, sp, wt⟩ := k
                          obtain ⟨sv', sp', wt'⟩ := k2
                          dsimp only at *
                          by_cases e0 : sv = sv'
                          · subst e0
                            by_cases e1 : sp = sp'
                            · subst e1
                              have hE : swt wt wt' = !((FloatKind.f64.format.order wt wt' != some .eq) && ((FloatKind.f64.format.order wt wt == some .eq) || (FloatKind.f64.format.order wt' wt' == some .eq))) := by
                                unfold swt feq bne
                                cases (FloatKind.f64.format.order wt wt' == some .eq) <;> cases (FloatKind.f64.format.order wt wt == some .eq) <;> cases (FloatKind.f64.format.order wt' wt' == some .eq) <;> rfl
                              have HTE : Hid (swt wt wt' = true ↔ TgEq ⟨sv, sp, wt⟩ ⟨sv, sp, wt'⟩) := ⟨fun h => ⟨rfl, rfl, h⟩, fun h => h.wt⟩
                              rw [hE] at HTE
                              clear hE
                              cases h1 : (FloatKind.f64.format.order wt wt' != some .eq) <;> cases h2 : (FloatKind.f64.format.order wt wt == some .eq) <;> cases h3 : (FloatKind.f64.format.order wt' wt' == some .eq)
                              all_goals rw [h1, h2, h3] at HTE
                              all_goals
                                first
                                | (have ht := HTE.out.1 rfl
                                   have HGP := hideL (HGO.out ht)
                                   clear ht HTE HGO
                                   go_wp2
                                   go_roundw
                                   case rel => exact ⟨i2 + 1, by go_num, by omega, HGQ.out, HGP.out⟩
                                   case measure => simp [intOf]; omega)
                                | (have HNT := hideL (HNX.out (fun ht => by have := HTE.out.2 ht; cases this))
                                   clear HTE HNX
                                   go_wp2
                                   go_ret
                                   exact ⟨Tells.no HNT.out, HT.out.trans HGQ.out⟩)
                            · have e1' := ba_ne e1
                              have HNT := hideL (HNX.out (fun h => e1 h.sp))
                              clear e1 HNX
                              go_wp2
                              go_ret
                              exact ⟨Tells.no HNT.out, HT.out.trans HGQ.out⟩
                          · have e0' := ba_ne e0
                            have HNT := hideL (HNX.out (fun h => e0 h.sv))
                            clear e0 HNX
                            go_wp2
                            go_ret
                            exact ⟨Tells.no HNT.out, HT.out.trans HGQ.out⟩
                      · have h4' : ¬ (i2 : Int) < p.tgs.length := by omega
                        have HE2 : Hid (TgsEq o.tgs p.tgs) := ⟨HL2.out, fun j c d hc hd => HF.out j c d (by have := (List.getElem?_eq_some_iff.1 hd).1; omega) hc hd⟩
                        clear HF
                        go_wp2_with fail
                        go_loopw [9] (fun t wr => ∃ (i : Nat), t = .int .i64 i ∧ i ≤ p.rus.length ∧ Gr wx wr ∧ Hid (∀ (j : Nat) c d, j < i → o.rus[j]? = some c → p.rus[j]? = some d → c = d)) (fun t _ => p.rus.length - (intOf t).toNat)
                        case atStart => exact ⟨0, rfl, by omega, HG.out, fun j c d hj _ => by omega⟩
                        case round =>
                          clear HG c3 d3
                          obtain ⟨i5, rfl, hi5, hgr, HF⟩ := hrel
                          have HG := hideL hgr
                          clear hgr
                          have i50 : (0 : Int) ≤ i5 := by omega
                          obtain ⟨-, -, c5, -, -, d5⟩ := HCL.out wr HG.out
                          by_cases h5 : i5 < p.rus.length
                          · have h5' : (i5 : Int) < p.rus.length := by omega
                            rcases hki : o.rus[i5]? with _ | k
                            · have := List.getElem?_eq_none_iff.1 hki; have := HL3.out; omega
                            rcases hkj : p.rus[i5]? with _ | k2
                            · have := List.getElem?_eq_none_iff.1 hkj; omega
                            obtain ⟨g, off, ea, hcx⟩ := (HO.out.rs.below (HT.out.trans HG.out).below).at_ hki
                            obtain ⟨g', off', pa, hcy⟩ := (HP.out.rs.below (HT.out.trans HG.out).below).at_ hkj
                            have e0 := hcx 0 _ rfl
                            have e1 := hcx 1 _ rfl
                            have e2 := hcx 2 _ rfl
                            have e3 := hcx 3 _ rfl
                            have f0 := hcy 0 _ rfl
                            have f1 := hcy 1 _ rfl
                            have f2 := hcy 2 _ rfl
                            have f3 := hcy 3 _ rfl
                            rw [Nat.add_zero] at e0 f0
                            rw [ea] at c5
                            rw [pa] at d5
                            have HK1 := hideL hki
                            have HJ := hideL hkj
                            clear hki hkj hcx hcy ea pa
                            by_cases he : k = k2
                            · subst he
                              go_wp2_with fail
                              go_quiet (fail)
                              go_wp2
                              go_roundw
                              case rel =>
                                refine ⟨i5 + 1, by go_num, by omega, HG.out.trans (Gr.drewN _ _), fun j c d hj hc hd => ?_⟩
                                by_cases hji : j < i5
                                · exact HF.out j c d hji hc hd
                                · obtain rfl : j = i5 := by omega
                                  rw [HK1.out] at hc; rw [HJ.out] at hd
                                  cases hc; cases hd; rfl
                              case measure => simp [intOf]; omega
                            · have hq : ∀ W, (binOp .neq 58 (.agg #[.string k.pa, .string k.me, .string k.sp, .bool k.al]) (.agg #[.string k2.pa, .string k2.me, .string k2.sp, .bool k2.al])).run Try.prog W = .ok (.bool true) W := neqR _ _ (ru_ne he)
                              have HNE : Hid (¬ SameC o.toRs p.toRs) := fun h => he (by
                                have e1 := HK1.out; rw [h.rus, HJ.out] at e1; cases e1; rfl)
                              clear he
                              go_wp2_with fail
                              go_quiet (fail)
                              go_wp2
                              go_ret
                              exact ⟨Tells.no HNE.out, (HT.out.trans HG.out).trans (Gr.drewN _ _)⟩
                          · have h5' : ¬ (i5 : Int) < p.rus.length := by omega
                            have HE3 : Hid (o.rus = p.rus) := eq_of_at HL3.out (fun j c d hj hc hd => HF.out j c d (by have := HL3.out; omega) hc hd)
                            clear HF
                            go_wp2
                            go_ret
                            exact ⟨Tells.yes ⟨HK.out, HH.out, HR.out, HD.out, HE1.out, HE2.out, HE3.out⟩, HT.out.trans HG.out⟩
              · have h3' : ¬ (o.rus.length : Int) = p.rus.length := by omega
                have HF : Hid (¬ SameC o.toRs p.toRs) := fun h => h3 (congrArg List.length h.rus)
                rw [h1] at c2
                rw [h2] at c3
                go_wp2
                go_ret
                exact ⟨Tells.no HF.out, HT.out.trans HG1.out⟩
            · have h2' : ¬ (o.tgs.length : Int) = p.tgs.length := by omega
              have HF : Hid (¬ SameC o.toRs p.toRs) := fun h => h2 h.tgs.1
              rw [h1] at c2
              go_wp2
              go_ret
              exact ⟨Tells.no HF.out, HT.out.trans HG1.out⟩
          · have h1' : ¬ (o.eps.length : Int) = p.eps.length := by omega
            have HF : Hid (¬ SameC o.toRs p.toRs) := fun h => h1 (congrArg List.length h.eps)
            go_wp2
            go_ret
            exact ⟨Tells.no HF.out, HT.out.trans HG1.out⟩
        · have hd' : (o.del != p.del) = true := by simpa using hd
          have HF : Hid (¬ SameC o.toRs p.toRs) := fun h => hd h.del
          go_wp2
          go_ret
          exact ⟨Tells.no HF.out, HT.out.trans HG1.out⟩
      · have hr' := HE.out _ _ hr
        have HF : Hid (¬ SameC o.toRs p.toRs) := fun h => hr h.route
        clear hr
        go_wp2
        go_ret
        exact ⟨Tells.no HF.out, HT.out.trans HG1.out⟩
    · have hh' := HE.out _ _ hh
      have HF : Hid (¬ SameC o.toRs p.toRs) := fun h => hh h.host
      clear hh
      go_wp2
      go_ret
      exact ⟨Tells.no HF.out, HT.out.trans HG1.out⟩
  · rw [decide_eq_false hk]
    have HF : Hid (¬ SameC o.toRs p.toRs) := fun h => hk h.key
    clear hk
    go_wp2
    go_ret
    exact ⟨Tells.no HF.out, HT.out.trans HG1.out⟩
end Go.Proofs.Ytmljljpldljpjab
