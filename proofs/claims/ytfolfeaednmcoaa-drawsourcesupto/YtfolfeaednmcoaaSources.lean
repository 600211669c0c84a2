/- The walk of DrawSources. -/
import Derived.Test.YtfolfeaednmcoaaMid
namespace Go.Proofs.Ytfolfeaednmcoaa
open Go.RowKit
set_option linter.unusedVariables false
set_option linter.unusedSimpArgs false
set_option maxRecDepth 100000
theorem kp_block {w w' : World} {base k : Nat} {X : List Nat} {O : Obj} (h : Kp w w' base X) (hk : k ∈ X) (hO : w.heap[k]? = some O) : w'.heap[k]? = some O := (h.2 k hk).trans hO
theorem gv_facts2 {w wo w4 W : World} {g n c k : Nat} {zs : List Int} {O : Obj} (hG : Gv w4 W wo.heap.size g n c zs k) (hB : Below w.heap.size w w4) (hO : w4.heap[wo.heap.size]? = some O) (hgo : wo.heap.size < g) (hwo : w.heap.size ≤ wo.heap.size) : Below w.heap.size w W ∧ W.heap[wo.heap.size]? = some O := by
  obtain ⟨ys, h1, h2, h3, h4⟩ := hG
  exact ⟨hB.trans (h4.below (by simp; omega) hB.size), (h4.old _ (lt_of_block hO) (by simp; omega)).trans hO⟩
theorem gv_stp {w4 W : World} {b g n c k : Nat} {zs : List Int} (hG : Gv w4 W b g n c zs k) : Stp w4 W [g] [g] := by
  obtain ⟨ys, h1, h2, h3, h4⟩ := hG
  exact h4
theorem kp_drew {w w' : World} {base : Nat} {X : List Nat} (h : Kp w.drew w' base X) : Kp w w' base X := ⟨((Below.refl _ _).drew).trans h.1, h.2⟩
set_option maxHeartbeats 4000000 in
theorem sources_some (st : Int) (a : Option Addr) (n cap : Nat) (ls : List Cs) (w : World) (hl : ls.length = n) (hL : LS w a ls) (hs : sumU ls + n ≤ 1048576) :
    Calls Try.prog 5 #[.int .u64 st, .slice a n cap, .bool false] w fun e w' => e = .returned (.bool true) ∧ Below w.heap.size w w' := by
  have HL : Hid (ls.length = n ∧ LS w a ls ∧ sumU ls ≤ 1048576) := ⟨hl, hL, by omega⟩
  have hn : n ≤ 1048576 := by omega
  clear hl hL hs
  go_enter Try.func5, Try.ntmps5
  go_wp2_with (first | (go_at_call 23; refine (new_any _ _).mono ?_; rintro e w1 ⟨rfl, rfl⟩))
  go_loopw [7, 9, 10, 11] (fun s l t k W => ∃ (i sb : Nat) (lo so : Option Addr) (ra : List Int) (sa : Int), i ≤ n ∧ s = .pointer (some ⟨sb, 0, none⟩) ∧ l = .pointer lo ∧ t = .pointer so ∧ k = .int .i64 i ∧ Mid W w.heap.size sb (w.heap.size + 1) lo so ra ra sa sa [] ∧ ra.length ≤ sumU (ls.take i) ∧ Below w.heap.size w W) (fun _ _ _ t _ => n - (intOf t).toNat)
  case atStart => exact ⟨0, w.heap.size, none, none, [], st, by omega, rfl, rfl, rfl, rfl, mid_start w st, by simp, (((Below.refl _ _).alloc (Nat.le_refl _) _).alloc (by simp) _)⟩
  case round =>
    obtain ⟨wo, hwo⟩ : ∃ wo, wo = wr := ⟨wr, rfl⟩
    subst hwo
    obtain ⟨i, sb, lo, so, ra, sa, hi', rfl, rfl, rfl, rfl, hM, hra, hB⟩ := hrel
    have HB : Hid (Below w.heap.size w wo) := hB
    have HM : Hid (Mid wo w.heap.size sb (w.heap.size + 1) lo so ra ra sa sa []) := hM
    have HA : Hid (ra.length ≤ sumU (ls.take i)) := hra
    have i0 : (0 : Int) ≤ i := by omega
    clear hB hM hra
    by_cases hin : i < n ∧ i < 100
    · obtain ⟨hin, hic⟩ := hin
      have hii : (i : Int) < n := by omega
      have hic' : (i : Int) < 100 := by omega
      obtain ⟨c, hc⟩ : ∃ c, ls[i]? = some c := ⟨ls[i]'(by have := HL.out.1; omega), List.getElem?_eq_getElem _⟩
      have hL1 := HL.out.2.1.below HB.out
      obtain ⟨bl, ol, ea, hcell⟩ : ∃ bl ol, a = some ⟨bl, ol, none⟩ ∧ ∀ (i : Nat) c, ls[i]? = some c → ∀ (j : Nat) v, c.cells[j]? = some v → wo.cell? ⟨bl, ol + i * 4 + j, none⟩ = some v := by
        rcases hL1.at_ with h | h
        · subst h; simp at hc
        · exact h
      subst ea
      have hU := HL.out.2.1.us c (List.mem_of_getElem? hc)
      have hsum := sumU_take hc
      have hsle := sumU_le ls (i + 1)
      have hsl := HL.out.2.2
      have hra := HA.out
      obtain ⟨⟨da, dn, dc, zs⟩, nx, cp, on⟩ := c
      have d0 : wo.cell? ⟨bl, ol + i * 4, none⟩ = some (.slice da dn dc) := hcell i _ hc 0 _ rfl
      have d1 : wo.cell? ⟨bl, ol + i * 4 + 1, none⟩ = some (.int .i64 nx) := hcell i _ hc 1 _ rfl
      have d2 : wo.cell? ⟨bl, ol + i * 4 + 2, none⟩ = some (.bool cp) := hcell i _ hc 2 _ rfl
      have d3 : wo.cell? ⟨bl, ol + i * 4 + 3, none⟩ = some (.bool on) := hcell i _ hc 3 _ rfl
      have hlen : Hid (zs.length = dn) := hU.len
      have hul : Hid (Ul w da zs) := hU.ul
      have hbare : Hid (da = none → dc = 0) := hU.bare
      have hfew : dn ≤ 1048576 := hU.few
      have hsum' : sumU (ls.take (i + 1)) = sumU (ls.take i) + dn := hsum
      have HZ : Hid (ra.length + dn ≤ sumU (ls.take (i + 1)) ∧ sumU (ls.take (i + 1)) ≤ 1048576) := (⟨by omega, by omega⟩ : ra.length + dn ≤ sumU (ls.take (i + 1)) ∧ sumU (ls.take (i + 1)) ≤ 1048576)
      have Hr1 : Hid (ra.length ≤ 1048576 ∧ dn ≤ 1048576) := (⟨by omega, hfew⟩ : ra.length ≤ 1048576 ∧ dn ≤ 1048576)
      clear hL1 hU hcell hc hsum hsum' hsle hsl hra
      obtain ⟨O, hO⟩ : ∃ O, O = Obj.cells #[.slice da dn dc, .int .i64 nx, .bool cp, .bool on] 52 (0, 0) := ⟨_, rfl⟩
      have HU : Hid (Ul ((wo.alloc O).alloc (.cells #[] 22 (0, 0))) da zs) := hul.out.below (HB.out.trans ((((Below.refl _ _).alloc (Nat.le_refl _) _).alloc (by simp) _).mono HB.out.size))
      have HE : Hid (((wo.alloc O).alloc (.cells #[] 22 (0, 0))).ownsRow (wo.alloc O).heap.size 22 1 (.slice (some ⟨wo.heap.size + 1, 0, none⟩) 0 0) 0 []) := empty_at wo O
      have HS : Hid ((wo.alloc O).heap.size ≤ ((wo.alloc O).alloc (.cells #[] 22 (0, 0))).heap.size) := empty_le wo O
      have H2 : Hid (dn ≤ 2097152) := (by omega : dn ≤ 2097152)
      subst hO
      go_upto_region 15 with (first | (at_builtin; refine wpList_append_ul rfl (.tmp 41) (.tmp 43) rfl (wo.alloc (Obj.cells #[.slice da dn dc, .int .i64 nx, .bool cp, .bool on] 52 (0, 0))).heap.size _ 0 [] rfl HE.out da dn dc zs rfl hlen.out HU.out hbare.out (by decide) H2.out HS.out ?_; intro v2 w2 hown hgrow hnil _; obtain ⟨g, gc, hv, HR, HB2⟩ := given_made rfl hown hgrow hnil; subst hv; clear hown hgrow hnil))
      obtain ⟨hO2, hB3⟩ := o_there HB2.out
      have hgl := (HR.out.lt g rfl).2
      have hgo : wo.heap.size < g := by have := (HR.out.lt g rfl).1; simp at this; omega
      have HM2 : Hid (Mid w2 w.heap.size sb (w.heap.size + 1) lo so ra ra sa sa [wo.heap.size, g]) := HM.out.fresh hB3 _ (by simp; exact ⟨lt_of_block hO2, by omega, hgl⟩)
      have HR' : Hid (w2.ownsRow wo.heap.size 22 1 (.slice (some ⟨g, 0, none⟩) dn gc) dn (uvals zs)) := own_base HR.out (by simp)
      have HO2 : Hid (w2.heap[wo.heap.size]? = some (Obj.cells #[.slice da dn dc, .int .i64 nx, .bool cp, .bool on] 52 (0, 0)) ∧ Below w.heap.size w w2 ∧ wo.heap.size < g) := ⟨hO2, HB.out.trans (hB3.mono HB.out.size), hgo⟩
      clear d0 d1 d2 d3 hO2 HU HE HS HR HB2 hgo hB3 hgl
      go_upto_region 17 with (first | (go_at_call 24; refine (push_mid HM2.out ⟨g, 0, none⟩ dn gc zs hlen.out (own_Ul HR'.out) Hr1.out.1 Hr1.out.2).mono ?_; rintro e w3 ⟨rfl, hm3, hk3⟩; have HM3 : Hid (Mid w3 w.heap.size sb (w.heap.size + 1) lo so (ra ++ zs) ra sa sa [wo.heap.size, g]) := hm3; have HK3 : Hid (Kp w2 w3 w.heap.size [wo.heap.size, g]) := hk3; clear hm3 hk3))
      have HO3 : Hid (w3.heap[wo.heap.size]? = some (Obj.cells #[.slice da dn dc, .int .i64 nx, .bool cp, .bool on] 52 (0, 0))) := kp_block HK3.out (by simp) HO2.out.1
      have HB3 : Hid (Below w.heap.size w w3) := HO2.out.2.1.trans HK3.out.1
      go_cut [] (fun wx => Hid (Mid wx w.heap.size sb (w.heap.size + 1) lo so (ra ++ zs) (ra ++ zs) sa sa [wo.heap.size, g]) ∧ Hid (Kp w3 wx w.heap.size [wo.heap.size, g]))
      case first =>
        obtain ⟨am, cm, m0, z0, hrow, hF⟩ := words_mid HM3.out.drew
        obtain ⟨c0, c1, c2, c3⟩ := o_cells HO3.out
        have c0' : w3.drew.cell? ⟨wo.heap.size, 0, none⟩ = some (.slice da dn dc) := c0
        have HW : Hid (w3.drew.ownsRow w.heap.size 22 1 (.slice am ra.length cm) ra.length (uvals ra)) := hrow
        have HU : Hid (Ul w3.drew da zs) := (hul.out.below HB3.out : Ul w3 da zs)
        have HF : Hid (∀ (v' : Value) (w' : World), w'.ownsRow w.heap.size 22 1 v' (ra.length + dn) (uvals ra ++ uvals zs) → w3.drew.grownBy w' (Value.slice am ra.length cm).ownBlock → (v'.ownBlock = (Value.slice am ra.length cm).ownBlock ∨ v'.ownBlock = some w3.drew.heap.size) →
          w'.cell? ⟨w.heap.size + 1, 0, none⟩ = some (.slice am ra.length cm) ∧ w'.frozen? ⟨w.heap.size + 1, 0, none⟩ = false ∧ Mid (w'.setCell ⟨w.heap.size + 1, 0, none⟩ v') w.heap.size sb (w.heap.size + 1) lo so (ra ++ zs) (ra ++ zs) sa sa [wo.heap.size, g] ∧ Kp w3.drew (w'.setCell ⟨w.heap.size + 1, 0, none⟩ v') w.heap.size [wo.heap.size, g]) := fun v' w' h1 h2 h3 => hF v' w' zs (by rw [hlen.out]; exact h1) h2 h3
        have HQ : Hid (ra.length ≤ 2097152 ∧ dn ≤ 2097152 ∧ w.heap.size ≤ w3.drew.heap.size) := ⟨by have := Hr1.out; omega, by have := Hr1.out; omega, HM3.out.lo⟩
        clear hrow hF c1 c2 c3
        go_wp2_with fail
        go_region_law (refine step_append_ul rfl (.tmp 54) (.tmp 56) rfl w.heap.size _ ra.length (uvals ra) rfl HW.out da dn dc zs rfl hlen.out HU.out hbare.out HQ.out.1 HQ.out.2.1 HQ.out.2.2 ?_; intro v' w4 hown hgrow _ hat; obtain ⟨a4, c4, hv4⟩ := own_shape hown; subst hv4; obtain ⟨y0, y1, y2, y3⟩ := HF.out _ w4 hown hgrow hat; have Y2 : Hid (Mid (w4.setCell ⟨w.heap.size + 1, 0, none⟩ (.slice a4 (ra.length + dn) c4)) w.heap.size sb (w.heap.size + 1) lo so (ra ++ zs) (ra ++ zs) sa sa [wo.heap.size, g]) := y2; have Y3 : Hid (Kp w3.drew (w4.setCell ⟨w.heap.size + 1, 0, none⟩ (.slice a4 (ra.length + dn) c4)) w.heap.size [wo.heap.size, g]) := y3; clear hown hgrow hat y2 y3)
        all_goals
          go_wp2_with fail
          go_meet
          case rel => exact ⟨Y2, kp_drew Y3.out⟩
      case rest =>
        obtain ⟨HM4, HK4⟩ := hcut
        obtain ⟨w4, hw4⟩ : ∃ w4, w4 = wc := ⟨wc, rfl⟩
        subst hw4
        have hO4 := kp_block HK4.out (by simp) HO3.out
        have hB4 := HB3.out.trans HK4.out.1
        have HR4 : w4.ownsRow wo.heap.size 22 1 (.slice (some ⟨g, 0, none⟩) dn gc) dn (uvals zs) := own_block HR'.out (fun k e => by cases e; exact (HK4.out.2 g (by simp)).trans (HK3.out.2 g (by simp)))
        have HG0 : Hid (Gv w4 w4 wo.heap.size g dn gc zs 0) := ⟨zs, hlen.out, fun _ _ => rfl, HR4, Stp.of_below _ (Below.refl _ _)⟩
        have HO4 : Hid (w4.heap[wo.heap.size]? = some (Obj.cells #[.slice da dn dc, .int .i64 nx, .bool cp, .bool on] 52 (0, 0)) ∧ Below w.heap.size w w4 ∧ wo.heap.size < g) := ⟨hO4, hB4, HO2.out.2.2⟩
        have HWo : Hid (w.heap.size ≤ wo.heap.size) := HB.out.size
        clear hO4 hB4 HR4 HK3 HK4 HO3 HB3 HR' HM3 HM2 HO2 HM
        go_wp2_with fail
        go_loopw [14] (fun t W => ∃ k : Nat, k ≤ dn ∧ t = .int .i64 k ∧ Gv w4 W wo.heap.size g dn gc zs k) (fun t _ => dn - (intOf t).toNat)
        case atStart => exact ⟨0, by omega, rfl, HG0.out⟩
        case round =>
          obtain ⟨k, hk', rfl, hG⟩ := hrel
          have k0 : (0 : Int) ≤ k := by omega
          by_cases hkd : k < dn
          · have hkk : (k : Int) < dn := by omega
            obtain ⟨x0, z0⟩ := hG.cell hkd
            obtain ⟨hBW, hOW⟩ := gv_facts2 hG HO4.out.2.1 HO4.out.1 HO4.out.2.2 HWo.out
            obtain ⟨bd, od, rfl, x1⟩ := ul_some (hul.out.below hBW) k (by rw [hlen.out]; exact hkd)
            obtain ⟨c0, c1, c2, c3⟩ := o_cells hOW
            have HG : Hid (Gv w4 wr wo.heap.size g dn gc zs k) := hG
            clear hG hBW hOW c1 c2 c3
            go_wp2_with fail
            go_quiet (fail)
            go_wp2_with fail
            case roundEnd => exact ⟨⟨k + 1, by omega, rfl, (HG.out.drewN nq).step _ hkd⟩, by simp [intOf]; omega⟩
          · have hkk : ¬ (k : Int) < dn := by omega
            obtain rfl : k = dn := by omega
            obtain ⟨hBW, hOW⟩ := gv_facts2 hG HO4.out.2.1 HO4.out.1 HO4.out.2.2 HWo.out
            obtain ⟨c0, c1, c2, c3⟩ := o_cells hOW
            have HM5 : Hid (Mid wr w.heap.size sb (w.heap.size + 1) lo so (ra ++ zs) (ra ++ zs) sa sa [wo.heap.size]) := (HM4.out.stp (gv_stp hG) (by simp)).sub (by simp)
            have HOB : Hid (wr.heap[wo.heap.size]? = some (Obj.cells #[.slice da k dc, .int .i64 nx, .bool cp, .bool on] 52 (0, 0)) ∧ Below w.heap.size w wr) := ⟨hOW, hBW⟩
            obtain ⟨w5, hw5⟩ : ∃ w5, w5 = wr := ⟨wr, rfl⟩
            subst hw5
            have HRL : Hid ((ra ++ zs).length ≤ sumU (ls.take (i + 1)) ∧ (ra ++ zs).length ≤ 1048576) := (by have := HZ.out; have := hlen.out; simp; omega : (ra ++ zs).length ≤ sumU (ls.take (i + 1)) ∧ (ra ++ zs).length ≤ 1048576)
            clear hG hBW hOW HM4 HO4 HG0
            go_upto_if 85 with fail
            go_cut [7, 9, 10, 40, 85] (fun s l t x y wx => ∃ (sb' : Nat) (lo' so' : Option Addr), s = .pointer (some ⟨sb', 0, none⟩) ∧ l = .pointer lo' ∧ t = .pointer so' ∧ Hid (Mid wx w.heap.size sb' (w.heap.size + 1) lo' so' (ra ++ zs) (ra ++ zs) sa sa [wo.heap.size]) ∧ Hid (Kp w5 wx w.heap.size [wo.heap.size]))
            case first =>
              cases cp
              · go_wp2_with fail
                go_meet
                case rel => exact ⟨sb, lo, so, rfl, rfl, rfl, HM5, ⟨Below.refl _ _, fun _ _ => rfl⟩⟩
              · go_upto_region 30 with (first | (go_at_call 25; refine (copy_mid HM5.out HRL.out.2).mono ?_; rintro e w6 ⟨c, rfl, hk6, hc6⟩; have HK6 : Hid (Kp w5 w6 w.heap.size [wo.heap.size]) := hk6; have HC6 : Hid (Calls Try.prog 26 #[.pointer (some ⟨w.heap.size + 1, 0, none⟩)] w6 fun e2 w2 => ∃ d, e2 = .returned (.pointer (some ⟨d, 0, none⟩)) ∧ Kp w6 w2 w.heap.size [wo.heap.size] ∧ Mid w2 w.heap.size sb (w.heap.size + 1) (some ⟨c, 0, none⟩) (some ⟨d, 0, none⟩) (ra ++ zs) (ra ++ zs) sa sa [wo.heap.size] ∧ Mid w2 w.heap.size c (w.heap.size + 1) (some ⟨sb, 0, none⟩) (some ⟨d, 0, none⟩) (ra ++ zs) (ra ++ zs) sa sa [wo.heap.size]) := hc6; clear hk6 hc6) | (go_at_call 26; refine HC6.out.mono ?_; rintro e w7 ⟨d, rfl, hk7, hm7, hm8⟩; have HK7 : Hid (Kp w6 w7 w.heap.size [wo.heap.size]) := hk7; have HM7 : Hid (Mid w7 w.heap.size sb (w.heap.size + 1) (some ⟨c, 0, none⟩) (some ⟨d, 0, none⟩) (ra ++ zs) (ra ++ zs) sa sa [wo.heap.size]) := hm7; have HM8 : Hid (Mid w7 w.heap.size c (w.heap.size + 1) (some ⟨sb, 0, none⟩) (some ⟨d, 0, none⟩) (ra ++ zs) (ra ++ zs) sa sa [wo.heap.size]) := hm8; clear hk7 hm7 hm8))
                have d3 : w7.cell? ⟨wo.heap.size, 3, none⟩ = some (.bool on) := (o_cells (kp_block (HK6.out.trans HK7.out) (by simp) HOB.out.1)).2.2.2
                have HKK : Hid (Kp w5 w7 w.heap.size [wo.heap.size]) := HK6.out.trans HK7.out
                cases on
                · go_wp2_with fail
                  go_meet
                  case rel => exact ⟨sb, some ⟨c, 0, none⟩, some ⟨d, 0, none⟩, rfl, rfl, rfl, HM7, HKK⟩
                · go_wp2_with fail
                  go_meet
                  case rel => exact ⟨c, some ⟨sb, 0, none⟩, some ⟨d, 0, none⟩, rfl, rfl, rfl, HM8, HKK⟩
            case rest =>
              obtain ⟨sb', lo', so', rfl, rfl, rfl, HM6, HK6⟩ := hcut
              obtain ⟨w8, hw8⟩ : ∃ w8, w8 = wc := ⟨wc, rfl⟩
              subst hw8
              have HO8 : Hid (w8.heap[wo.heap.size]? = some (Obj.cells #[.slice da k dc, .int .i64 nx, .bool cp, .bool on] 52 (0, 0)) ∧ Below w.heap.size w w8) := ⟨kp_block HK6.out (by simp) HOB.out.1, HOB.out.2.trans HK6.out.1⟩
              clear HK6 HM5 HOB c0 c1 c2 c3
              go_wp2_with fail
              go_loopw [16] (fun t W => ∃ (q : Nat) (rx : List Int) (sx : Int), q ≤ 100 ∧ t = .int .i64 q ∧ Hid (Mid W w.heap.size sb' (w.heap.size + 1) lo' so' rx rx sx sx [wo.heap.size]) ∧ Hid (rx.length ≤ sumU (ls.take (i + 1)) ∧ rx.length ≤ 1048576) ∧ Hid (Kp w8 W w.heap.size [wo.heap.size])) (fun t _ => 100 - (intOf t).toNat)
              case atStart => exact ⟨0, _, _, by omega, rfl, HM6, HRL, ⟨Below.refl _ _, fun _ _ => rfl⟩⟩
              case round =>
                obtain ⟨q, rx, sx, hq, rfl, HMx, HRx, HKx⟩ := hrel
                have q0 : (0 : Int) ≤ q := by omega
                have c1 : wr.cell? ⟨wo.heap.size, 1, none⟩ = some (.int .i64 nx) := (o_cells (kp_block HKx.out (by simp) HO8.out.1)).2.1
                by_cases hqq : (q : Int) < nx ∧ q < 100
                · have hqx : (q : Int) < nx := hqq.1
                  have hq1' : (q : Int) < 100 := by omega
                  go_wp2_with (first | (go_at_call 27; refine (next_mid_s HMx.out HRx.out.2).mono ?_; rintro e w9 ⟨rfl, hm9, hk9⟩; have HM9 : Hid (Mid w9 w.heap.size sb' (w.heap.size + 1) lo' so' (popR rx) rx (popS rx sx) sx [wo.heap.size]) := hm9; have HK9 : Hid (Kp wr w9 w.heap.size [wo.heap.size]) := hk9; clear hm9 hk9) | (go_at_call 28; refine (next_mid_m HM9.out HRx.out.2).mono ?_; rintro e w10 ⟨rfl, hm10, hk10⟩; have HM10 : Hid (Mid w10 w.heap.size sb' (w.heap.size + 1) lo' so' (popR rx) (popR rx) (popS rx sx) (popS rx sx) [wo.heap.size]) := hm10; have HK10 : Hid (Kp w9 w10 w.heap.size [wo.heap.size]) := hk10; clear hm10 hk10))
                  case roundEnd => exact ⟨⟨q + 1, _, _, by omega, rfl, HM10, ⟨popR_le _ _ HRx.out.1, popR_le _ _ HRx.out.2⟩, HKx.out.trans (HK9.out.trans HK10.out)⟩, by simp [intOf]; omega⟩
                · obtain ⟨am, cm, m0, _, _, _⟩ := words_mid HMx.out
                  have HBx : Hid (Below w.heap.size w wr) := HO8.out.2.trans HKx.out.1
                  have HC : Hid (Calls Try.prog 29 #[.pointer (some ⟨sb', 0, none⟩)] wr fun e w' => e = .returned (.int .i64 (rx.length : Nat)) ∧ ∃ q, w' = wr.drewN q) := left_mid HMx.out HRx.out.2
                  by_cases hqx : (q : Int) < nx
                  · have hq1' : ¬ (q : Int) < 100 := by omega
                    go_wp2_with (first | (go_at_call 29; refine HC.out.mono ?_; rintro e w9 ⟨rfl, q9, rfl⟩))
                    case roundEnd => exact ⟨⟨i + 1, sb', lo', so', rx, sx, by omega, rfl, rfl, rfl, rfl, (HMx.out.drewN q9).sub (by simp), HRx.out.1, below_drewN HBx.out q9⟩, by simp [intOf]; omega⟩
                  · go_wp2_with (first | (go_at_call 29; refine HC.out.mono ?_; rintro e w9 ⟨rfl, q9, rfl⟩))
                    case roundEnd => exact ⟨⟨i + 1, sb', lo', so', rx, sx, by omega, rfl, rfl, rfl, rfl, (HMx.out.drewN q9).sub (by simp), HRx.out.1, below_drewN HBx.out q9⟩, by simp [intOf]; omega⟩
    · have hout : ¬ (i : Int) < n ∨ (i : Int) < n ∧ ¬ (i : Int) < 100 := by omega
      rcases HM.out.left with rfl | ⟨lb, tb, rc, sc, rfl, rfl, hrc, hQ⟩
      · rcases hout with hii | ⟨hii, hic'⟩
        · go_wp2_with fail
          go_ret
          exact ⟨rfl, HB.out⟩
        · go_wp2_with fail
          go_ret
          exact ⟨rfl, HB.out⟩
      · have HQ : Hid (QD wo w.heap.size lb tb rc rc sc sc ∧ rc.length ≤ 1048576) := ⟨hQ, hrc⟩
        clear hQ hrc
        rcases hout with hii | ⟨hii, hic'⟩
        all_goals
          go_wp2_with fail
          go_loopw [18] (fun t W => ∃ (k : Nat) (rx : List Int) (sx : Int), k ≤ 20 ∧ t = .int .i64 k ∧ Hid (QD W w.heap.size lb tb rx rx sx sx) ∧ Hid (rx.length ≤ 1048576) ∧ Hid (Below w.heap.size w W)) (fun t _ => 20 - (intOf t).toNat)
          case atStart => exact ⟨0, rc, sc, by omega, rfl, HQ.out.1, HQ.out.2, HB⟩
          case round =>
            obtain ⟨k, rx, sx, hk, rfl, HQx, HRx, HBx⟩ := hrel
            have k0 : (0 : Int) ≤ k := by omega
            by_cases hk2 : k < 20
            · have hk2' : (k : Int) < 20 := by omega
              obtain ⟨am, cm, m0⟩ := HQx.out.words
              have m0' : wr.drew.cell? ⟨tb, 0, none⟩ = some (.slice am rx.length cm) := m0
              have HQd : Hid (QD wr.drew w.heap.size lb tb rx rx sx sx) := HQx.out.drew
              have HBd : Hid (Below w.heap.size w wr.drew) := HBx.out.drew
              go_upto_region 48 with fail
              go_cut [146] (fun t wx => t = .bool false ∧ Hid (QD wx w.heap.size lb tb (popR rx) (popR rx) (popS rx sx) (popS rx sx)) ∧ Hid (Below w.heap.size w wx))
              case first =>
                go_wp2_with fail
                go_region_with (first | (go_at_call 29; refine (QD.left HQd.out HRx.out).mono ?_; rintro e w1 ⟨rfl, q1, hw1⟩; have HQ1 : Hid (QD w1 w.heap.size lb tb rx rx sx sx) := hw1 ▸ HQd.out.drewN q1; have m1 : w1.cell? ⟨tb, 0, none⟩ = some (.slice am rx.length cm) := hw1 ▸ m0; have HB1 : Hid (Below w.heap.size w w1) := hw1 ▸ below_drewN HBd.out q1; clear hw1) | (go_at_call 27; refine (QD.next_s HQ1.out HRx.out).mono ?_; rintro e w2 ⟨rfl, h2, hb2⟩; have HQ2 : Hid (QD w2 w.heap.size lb tb (popR rx) rx (popS rx sx) sx) := h2; have HB2 : Hid (Below w.heap.size w w2) := HB1.out.trans hb2; clear h2 hb2) | (go_at_call 28; refine (QD.next_m HQ2.out HRx.out).mono ?_; rintro e w3 ⟨rfl, h2, hb2⟩; have HQ3 : Hid (QD w3 w.heap.size lb tb (popR rx) (popR rx) (popS rx sx) (popS rx sx)) := h2; have HB3 : Hid (Below w.heap.size w w3) := HB2.out.trans hb2; clear h2 hb2) | (go_at_call 28; refine (QD.next_m HQ1.out HRx.out).mono ?_; rintro e w2 ⟨rfl, h2, hb2⟩; have HP2 : Hid (QD w2 w.heap.size lb tb rx (popR rx) sx (popS rx sx)) := h2; have HB2 : Hid (Below w.heap.size w w2) := HB1.out.trans hb2; clear h2 hb2) | (go_at_call 27; refine (QD.next_s HP2.out HRx.out).mono ?_; rintro e w3 ⟨rfl, h2, hb2⟩; have HQ3 : Hid (QD w3 w.heap.size lb tb (popR rx) (popR rx) (popS rx sx) (popS rx sx)) := h2; have HB3 : Hid (Below w.heap.size w w3) := HB2.out.trans hb2; clear h2 hb2))
                all_goals
                  go_wp2_with fail
                  go_meet
                  case rel => exact ⟨rfl, HQ3, HB3⟩
              case rest =>
                obtain ⟨rfl, HQ3, HB3⟩ := hcut
                go_wp2_with fail
                case roundEnd => exact ⟨⟨k + 1, _, _, by omega, rfl, HQ3, popR_le _ _ HRx.out, HB3⟩, by simp [intOf]; omega⟩
            · have hk2' : ¬ (k : Int) < 20 := by omega
              go_wp2_with fail
              go_ret
              exact ⟨rfl, HBx.out⟩
end Go.Proofs.Ytfolfeaednmcoaa
