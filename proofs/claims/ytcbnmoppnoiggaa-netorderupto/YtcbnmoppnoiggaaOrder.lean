/-
  NetOrder.
-/
import Derived.Test.YtcbnmoppnoiggaaMem
import Derived.Test.YtcbnmoppnoiggaaCl
import Derived.Deep.RegionHeld3
import Derived.Deep.RegionLaw
import Derived.Deep.DeepCutAuto
namespace Go.Proofs.Ytcbnmoppnoiggaa
open Go.RowKit
set_option linter.unusedVariables false
set_option linter.unusedSimpArgs false
theorem mem_start {Wo w : World} {B b : Nat} {row : Value} {cs : List Cn} (N : Net w B b row (.map none) cs) (L : Below B Wo w) :
    Mem Wo ((w.alloc (.cells #[.slice none 0 0, .slice none 0 0] 42)).alloc (.cells #[.slice none 0 0, .slice none 0 0] 42)) B b row cs w.heap.size (w.heap.size + 1) (fun _ => .slice none 0 0) (fun _ => .slice none 0 0) (fun _ => []) (fun _ => []) := by
  have hB : B ≤ w.heap.size := Nat.le_trans N.low (Nat.le_of_lt (lt_of_block N.net))
  refine ⟨(N.alloc _).alloc _, (Below.heap_alloc _ _ _ (by simp)).trans (Go.heap_alloc_new w _), ?_, hB, by omega, by omega, fun _ => Apt.nil _ _ _ _ _, fun _ => Apt.nil _ _ _ _ _, (fun k h => by cases h), (fun k h => by cases h), (fun _ _ k h => by cases h), (L.alloc hB _).alloc (by simp; omega) _⟩
  have := Go.heap_alloc_new (w.alloc (.cells #[.slice none 0 0, .slice none 0 0] 42)) (.cells #[.slice none 0 0, .slice none 0 0] 42)
  simpa using this
theorem inv_start (a b d : Nat) (x y z : ByteArray) : Inv [Cn.fresh a x, Cn.fresh b y, Cn.fresh d z] 0 (fun _ => []) (fun _ => []) := by
  have hs : ∀ k nm s, ((Cn.fresh k nm).m.sd s).us = [] ∧ ((Cn.fresh k nm).m.sd s).ar = [] := fun k nm s => by cases s <;> exact ⟨rfl, rfl⟩
  refine ⟨rfl, ?_, by simp, ?_, fun s => ⟨[], rfl⟩⟩
  · intro i c hc s
    have : c ∈ [Cn.fresh a x, Cn.fresh b y, Cn.fresh d z] := List.mem_of_getElem? hc
    simp at this
    rcases this with rfl | rfl | rfl <;> rw [(hs _ _ s).1, (hs _ _ (!s)).2] <;> simp
  · intro c hc
    simp at hc
    subst hc
    exact ⟨fun _ s => by rw [(hs _ _ s).1, (hs _ _ (!s)).2]; rfl⟩
theorem has_drew {w : World} {a : Option Addr} {zs : List Int} (h : Has w a zs) : Has w.drew a zs := by
  rcases h with h | ⟨x, hx, hc⟩
  · exact .inl h
  · exact .inr ⟨x, hx, fun j hj => hc j hj⟩
theorem pass_all (m : Md) (s : Bool) (hct : m.ct = false) (hl : (m.sd s).us.length ≤ 1099511627776) : ((mPass m s 1099511627776).2.2.sd s).us = [] := by
  have hk : mK m s 1099511627776 = (m.sd s).us.length := by unfold mK; omega
  unfold mPass
  rw [if_neg (by decide), if_neg (by rw [hct]; decide)]
  show (((m.set (!s) _).set s _).sd s).us = []
  rw [Md.sd_same, hk]
  simp
set_option maxRecDepth 100000 in
set_option maxHeartbeats 4000000 in
theorem order_at (Wo : World) (B : Nat) (hB : Wo.heap.size = B) (a : Option Addr) (n cap : Nat) (ls : List Cl) (hl : ls.length = n) (hc : LC Wo a ls) (hsum : sumN ls ≤ 1048576) (hn : n ≤ 1048576) :
    Calls Try.prog 4 #[.slice a n cap] Wo fun e w' => e = .returned (.bool true) ∧ Below B Wo w' := by
  obtain ⟨i0, i0i, hz0, hz1, hz2⟩ := info_parts Try.info5
  have HL : Hid (ls.length = n) := hl
  have HC : Hid (LC Wo a ls) := hc
  have HS : Hid (sumN ls ≤ 1048576) := hsum
  have HB : Hid (Wo.heap.size = B) := hB
  clear hl hc hsum hB
  go_enter Try.func4, Try.ntmps4
  go_wp2_with fail
  refine (awake_any Wo).mono ?_
  rintro e w0 ⟨rfl, L0'⟩
  rw [HB.out] at L0'
  have L0 : Hid (Below B Wo w0) := L0'
  have S0 : Hid (B ≤ w0.heap.size) := by have := L0'.size; have := HB.out; show B ≤ w0.heap.size; omega
  clear L0'
  go_wp2_with fail
  have HN := net_new w0 B S0.out
  refine (new_any w0).mono ?_
  rintro e w1 ⟨rfl, hw1⟩
  rw [← hw1] at HN
  have L1 : Hid (Below B Wo w1) := by rw [hw1]; exact L0.out.alloc S0.out _
  obtain ⟨b, hb⟩ : ∃ b, w0.heap.size = b := ⟨_, rfl⟩
  rw [hb] at HN ⊢
  have N1 : Hid (Net w1 B b (.slice none 0 0) (.map none) []) := HN
  clear HN hw1 hb
  go_wp2_with fail
  refine (dial_ok B b _ none [] ⟨#[120]⟩ w1 N1.out (by decide) (look_none _ (by decide) w1)).mono ?_
  rintro e w2 ⟨rfl, k0, row2, D2⟩
  have N2 : Hid (Net w2 B b row2 (.map none) [Cn.fresh k0 ⟨#[120]⟩]) := D2.net
  have L2 : Hid (Below B Wo w2) := L1.out.trans (D2.below N1.out)
  clear D2
  go_wp2_with fail
  refine (dial_ok B b _ none [Cn.fresh k0 ⟨#[120]⟩] ⟨#[97]⟩ w2 N2.out (by simp) (look_none _ (by decide) w2)).mono ?_
  rintro e w3 ⟨rfl, k1, row3, D3⟩
  have N3 : Hid (Net w3 B b row3 (.map none) [Cn.fresh k0 ⟨#[120]⟩, Cn.fresh k1 ⟨#[97]⟩]) := D3.net
  have L3 : Hid (Below B Wo w3) := L2.out.trans (D3.below N2.out)
  clear D3 N1 L1 N2 L2 L0 S0
  go_wp2_with fail
  refine (dial_ok B b _ none [Cn.fresh k0 ⟨#[120]⟩, Cn.fresh k1 ⟨#[97]⟩] ⟨#[121]⟩ w3 N3.out (by simp) (look_none _ (by decide) w3)).mono ?_
  rintro e w4 ⟨rfl, k2, row, D4⟩
  have N4 : Hid (Net w4 B b row (.map none) [Cn.fresh k0 ⟨#[120]⟩, Cn.fresh k1 ⟨#[97]⟩, Cn.fresh k2 ⟨#[121]⟩]) := D4.net
  have L4 : Hid (Below B Wo w4) := L3.out.trans (D4.below N3.out)
  clear D4 N3 L3
  go_wp2_with fail
  have M5' := mem_start N4.out L4.out
  obtain ⟨w5, hw5⟩ : ∃ W, (w4.alloc (.cells #[.slice none 0 0, .slice none 0 0] 42)).alloc (.cells #[.slice none 0 0, .slice none 0 0] 42) = W := ⟨_, rfl⟩
  rw [hw5] at M5' ⊢
  obtain ⟨br, hbr⟩ : ∃ br, w4.heap.size + 1 = br := ⟨_, rfl⟩
  rw [hbr] at M5' ⊢
  obtain ⟨bw, hbw⟩ : ∃ bw, w4.heap.size = bw := ⟨_, rfl⟩
  rw [hbw] at M5' ⊢
  have I5 : Hid (Inv [Cn.fresh k0 ⟨#[120]⟩, Cn.fresh k1 ⟨#[97]⟩, Cn.fresh k2 ⟨#[121]⟩] (sumN (ls.take 0)) (fun _ => []) (fun _ => [])) := inv_start _ _ _ _ _ _
  have M5 : Hid (Mem Wo w5 B b row [Cn.fresh k0 ⟨#[120]⟩, Cn.fresh k1 ⟨#[97]⟩, Cn.fresh k2 ⟨#[121]⟩] bw br (fun _ => .slice none 0 0) (fun _ => .slice none 0 0) (fun _ => []) (fun _ => [])) := M5'
  clear M5' hw5 hbr hbw N4 L4
  go_loopw [8, 9] (fun t8 t9 wr => ∃ (i : Nat) (cs : List Cn) (vw vr : Bool → Value) (Wf Rf : Bool → List Int) (q : Bool), i ≤ n ∧ t8 = .bool q ∧ t9 = .int .i64 i ∧ Hid (Mem Wo wr B b row cs bw br vw vr Wf Rf) ∧ Hid (Inv cs (sumN (ls.take i)) Wf Rf) ∧ Hid (Cutq cs q)) (fun _ t _ => n - (intOf t).toNat)
  case atStart => exact ⟨0, _, _, _, _, _, false, Nat.zero_le _, rfl, rfl, M5, I5, (fun c hc => by simp at hc; subst hc; rfl)⟩
  case round =>
    obtain ⟨i, cs, vw, vr, Wf, Rf, q, hi, rfl, rfl, Mr, Ir, Qr⟩ := hrel
    clear M5 I5
    by_cases hlt : i < n
    · rename_i hbig2
      clear hbig2
      obtain ⟨cl, hcl⟩ : ∃ cl, ls[i]? = some cl := ⟨ls[i]'(by rw [HL.out]; exact hlt), List.getElem?_eq_getElem _⟩
      obtain ⟨bl, ol, rfl, hcell⟩ := HC.out.at_.resolve_left (fun e => by rw [e] at hcl; simp at hcl)
      have hbl : ∀ (j : Nat) v, cl.cells[j]? = some v → wr.cell? ⟨bl, ol + i * 6 + j, none⟩ = some v := fun j v hv =>
        (Mr.out.bel.cell (p := ⟨bl, ol + i * 6 + j, none⟩) (by rw [← HB.out]; exact World.block_lt_of_cell? Wo _ (hcell i cl hcl j v hv))).trans (hcell i cl hcl j v hv)
      have c0 : wr.cell? ⟨bl, ol + i * 6, none⟩ = some (.int .i64 cl.kd) := hbl 0 _ rfl
      have c1 : wr.cell? ⟨bl, ol + i * 6 + 1, none⟩ = some (.string cl.nm) := hbl 1 _ rfl
      have c2 : wr.cell? ⟨bl, ol + i * 6 + 2, none⟩ = some (.int .i64 cl.cn) := hbl 2 _ rfl
      have c3 : wr.cell? ⟨bl, ol + i * 6 + 3, none⟩ = some (.int .i64 cl.sd) := hbl 3 _ rfl
      have c4 : wr.cell? ⟨bl, ol + i * 6 + 4, none⟩ = some (.int .i64 cl.nn) := hbl 4 _ rfl
      have c5 : wr.cell? ⟨bl, ol + i * 6 + 5, none⟩ = some (.slice cl.d.a cl.d.n cl.d.cap) := hbl 5 _ rfl
      have BD : Hid (Bs Wo cl.d.a cl.d.n cl.d.cap cl.d.zs) := HC.out.bs cl (List.mem_of_getElem? hcl)
      have HD : Hid (sumN (ls.take (i + 1)) = sumN (ls.take i) + cl.d.n ∧ sumN (ls.take (i + 1)) ≤ 1048576) := ⟨sumN_take hcl, Nat.le_trans (sumN_le ls _) HS.out⟩
      obtain ⟨⟨kd, nm, cn, sd, nn, d⟩, hcle⟩ : ∃ c : Cl, cl = c := ⟨_, rfl⟩
      subst hcle
      simp only at c0 c1 c2 c3 c4 c5 BD HD
      clear hcl hcell hbl
      go_upto_region 15 with fail
      have RM : Hid (Mem Wo (wr.alloc (.cells #[.int .i64 kd, .string nm, .int .i64 cn, .int .i64 sd, .int .i64 nn, .slice d.a d.n d.cap] 34)) B b row cs bw br vw vr Wf Rf) := Mr.out.alloc _
      have hkc : Hid ((wr.alloc (.cells #[.int .i64 kd, .string nm, .int .i64 cn, .int .i64 sd, .int .i64 nn, .slice d.a d.n d.cap] 34)).heap[wr.heap.size]? = some (.cells #[.int .i64 kd, .string nm, .int .i64 cn, .int .i64 sd, .int .i64 nn, .slice d.a d.n d.cap] 34 (0, 0))) := Go.heap_alloc_new wr _
      obtain ⟨w6, hw6⟩ : ∃ W, wr.alloc (.cells #[.int .i64 kd, .string nm, .int .i64 cn, .int .i64 sd, .int .i64 nn, .slice d.a d.n d.cap] 34) = W := ⟨_, rfl⟩
      rw [hw6] at RM hkc ⊢
      obtain ⟨kc, hkcn⟩ : ∃ kc, wr.heap.size = kc := ⟨_, rfl⟩
      rw [hkcn] at hkc ⊢
      clear hw6 hkcn Mr c0 c1 c2 c3 c4 c5
      go_cut [69] (fun t wx => t = .bool (decide (sd < 0 ∨ 1 < sd ∨ cn < 0 ∨ 2 < cn)) ∧ wx = w6)
      case first =>
        as_aux_lemma =>
          rename_i hbg J0 K0 hJ0 hK0
          clear hbg
          have c2 : w6.cell? ⟨kc, 2, none⟩ = some (.int .i64 cn) := cell_block hkc.out 2
          have c3 : w6.cell? ⟨kc, 3, none⟩ = some (.int .i64 sd) := cell_block hkc.out 3
          by_cases b1 : sd < 0
          · go_wp2_with fail
            go_meet
            case rel => exact ⟨congrArg Value.bool (decide_eq_true (p := sd < 0 ∨ 1 < sd ∨ cn < 0 ∨ 2 < cn) (by omega)).symm, rfl⟩
          by_cases b2 : 1 < sd
          · go_wp2_with fail
            go_meet
            case rel => exact ⟨congrArg Value.bool (decide_eq_true (p := sd < 0 ∨ 1 < sd ∨ cn < 0 ∨ 2 < cn) (by omega)).symm, rfl⟩
          by_cases b3 : cn < 0
          · go_wp2_with fail
            go_meet
            case rel => exact ⟨congrArg Value.bool (decide_eq_true (p := sd < 0 ∨ 1 < sd ∨ cn < 0 ∨ 2 < cn) (by omega)).symm, rfl⟩
          by_cases b4 : 2 < cn
          · go_wp2_with fail
            go_meet
            case rel => exact ⟨congrArg Value.bool (decide_eq_true (p := sd < 0 ∨ 1 < sd ∨ cn < 0 ∨ 2 < cn) (by omega)).symm, rfl⟩
          go_wp2_with fail
          go_meet
          case rel => exact ⟨congrArg Value.bool (decide_eq_false (p := sd < 0 ∨ 1 < sd ∨ cn < 0 ∨ 2 < cn) (by omega)).symm, rfl⟩
      case rest =>
        obtain ⟨rfl, hwc⟩ := hcut
        have hwc := hwc.symm
        subst hwc
        by_cases hbad : sd < 0 ∨ 1 < sd ∨ cn < 0 ∨ 2 < cn
        · rw [decide_eq_true hbad]
          have RI : Hid (Inv cs (sumN (ls.take (i + 1))) Wf Rf) := Ir.out.mono (by have := HD.out; omega)
          clear hbad
          go_wp2_with fail
          go_roundw
          case rel => exact ⟨i + 1, cs, vw, vr, Wf, Rf, q, by omega, rfl, by go_num, RM, RI, Qr⟩
          case measure => simp [intOf]; omega
        · rw [decide_eq_false hbad]
          obtain ⟨s, hs⟩ : ∃ s : Bool, sd = sI s := by
            by_cases h : sd = 0
            · exact ⟨false, h⟩
            · exact ⟨true, by show sd = 1; omega⟩
          subst hs
          obtain ⟨ci, hci⟩ : ∃ ci : Nat, cn = ci := ⟨cn.toNat, by omega⟩
          subst hci
          have hci : ci < 3 := by omega
          clear hbad
          have hkc : Hid (w6.heap[kc]? = some (.cells #[.int .i64 kd, .string nm, .int .i64 ci, .int .i64 (sI s), .int .i64 nn, .slice d.a d.n d.cap] 34 (0, 0))) := hkc
          obtain ⟨c, hc⟩ : ∃ c, cs[ci]? = some c := ⟨cs[ci]'(by rw [Ir.out.len]; exact hci), List.getElem?_eq_getElem _⟩
          have HCc : Hid (cs[ci]? = some c) := hc
          clear hc
          go_upto_region 16 with fail
          go_cut [88] (fun t wx => ∃ (v : Bool) (cs' : List Cn), t = .bool v ∧ Hid (Mem Wo wx B b row cs' bw br vw vr Wf Rf) ∧ Hid (Inv cs' (sumN (ls.take (i + 1))) (if v then upd Wf s (Wf s ++ d.zs) else Wf) Rf) ∧ Hid (Cutq cs' q) ∧ Hid (wx.heap[kc]? = some (.cells #[.int .i64 kd, .string nm, .int .i64 ci, .int .i64 (sI s), .int .i64 nn, .slice d.a d.n d.cap] 34 (0, 0))))
          case first =>
            as_aux_lemma =>
              rename_i hbg J0 K0 hJ0 hK0
              clear hbg
              have c0 : w6.cell? ⟨kc, 0, none⟩ = some (.int .i64 kd) := cell_block hkc.out 0
              have c2 : w6.cell? ⟨kc, 2, none⟩ = some (.int .i64 ci) := cell_block hkc.out 2
              have c3 : w6.cell? ⟨kc, 3, none⟩ = some (.int .i64 (sI s)) := cell_block hkc.out 3
              have c5 : w6.cell? ⟨kc, 5, none⟩ = some (.slice d.a d.n d.cap) := cell_block hkc.out 5
              by_cases hk3 : kd = 3
              · subst hk3
                go_wp2_with fail
                have hus : (c.sd s).us.length ≤ 1048576 := by
                  have h1 := Ir.out.siz ci c HCc.out s
                  have h2 := HD.out
                  rw [m_us] at h1
                  omega
                refine (nwrite RM.out.net ci c HCc.out s d.a d.n d.cap d.zs BD.out.len BD.out.bare (BD.out.has.of_below (by rw [HB.out]; exact RM.out.bel)) BD.out.oct hus).mono ?_
                rintro e w7 ⟨rfl, c7, hm7, D7⟩
                obtain ⟨M7, K7⟩ := RM.out.dialed D7
                have I7 := Ir.out.write HCc.out s d.zs hm7
                have Q7 : Cutq (cs.set ci c7) q := Qr.out.set HCc.out (by rw [hm7, write_ct])
                have hkc7 := K7 _ _ hkc.out
                have hDz : sumN (ls.take i) + d.zs.length = sumN (ls.take (i + 1)) := by rw [HD.out.1, BD.out.len]
                rw [hDz] at I7
                obtain ⟨E, hE⟩ : ∃ E, (mWrite c.m s d.zs).1 = E := ⟨_, rfl⟩
                rw [hE] at I7 ⊢
                have d2 : w7.cell? ⟨kc, 2, none⟩ = some (.int .i64 ci) := cell_block hkc7 2
                have R1 : Hid (Mem Wo w7 B b row (cs.set ci c7) bw br vw vr Wf Rf) := M7
                have R2 : Hid (Inv (cs.set ci c7) (sumN (ls.take (i + 1))) (if E = 0 ∧ ci = 1 then upd Wf s (Wf s ++ d.zs) else Wf) Rf) := I7
                have R3 : Hid (Cutq (cs.set ci c7) q) := Q7
                have R4 : Hid (w7.heap[kc]? = some (.cells #[.int .i64 3, .string nm, .int .i64 ci, .int .i64 (sI s), .int .i64 nn, .slice d.a d.n d.cap] 34 (0, 0))) := hkc7
                clear hm7 D7 M7 K7 I7 Q7 hkc7 hDz hE hus
                by_cases hE0 : E = 0
                · subst hE0
                  by_cases h1 : ci = 1
                  · subst h1
                    have R5 : Hid (Inv (cs.set 1 c7) (sumN (ls.take (i + 1))) (if true then upd Wf s (Wf s ++ d.zs) else Wf) Rf) := by have := R2.out; rw [if_pos ⟨rfl, rfl⟩] at this; exact this
                    clear R2
                    go_wp2_with fail
                    go_meet
                    case rel => exact ⟨true, _, rfl, R1, R5, R3, R4⟩
                  · have h1b : ((ci : Int) == 1) = false := beq_eq_false_iff_ne.2 (by omega)
                    have R5 : Hid (Inv (cs.set ci c7) (sumN (ls.take (i + 1))) (if false then upd Wf s (Wf s ++ d.zs) else Wf) Rf) := by have := R2.out; rw [if_neg (fun e => h1 e.2)] at this; exact this
                    clear R2
                    go_wp2_with fail
                    go_meet
                    case rel => exact ⟨false, _, rfl, R1, R5, R3, R4⟩
                · have hEb : (E == 0) = false := beq_eq_false_iff_ne.2 hE0
                  have R5 : Hid (Inv (cs.set ci c7) (sumN (ls.take (i + 1))) (if false then upd Wf s (Wf s ++ d.zs) else Wf) Rf) := by have := R2.out; rw [if_neg (fun e => hE0 e.1)] at this; exact this
                  clear R2
                  go_wp2_with fail
                  go_meet
                  case rel => exact ⟨false, _, rfl, R1, R5, R3, R4⟩
              · have hkb : (kd == 3) = false := beq_eq_false_iff_ne.2 hk3
                go_wp2_with fail
                go_meet
                case rel => exact ⟨false, cs, rfl, RM, Ir.out.mono (by have := HD.out; omega), Qr, hkc⟩
          case rest =>
            obtain ⟨v, cs1, rfl, M1, I1, Q1, K1⟩ := hcut
            clear RM Ir Qr hkc HCc
            go_upto_if 88 with fail
            go_cut [] (fun wx => ∃ (cs' : List Cn) (vw' vr' : Bool → Value) (Wf' Rf' : Bool → List Int), Hid (Mem Wo wx B b row cs' bw br vw' vr' Wf' Rf') ∧ Hid (Inv cs' (sumN (ls.take (i + 1))) Wf' Rf') ∧ Hid (Cutq cs' q) ∧ Hid (wx.heap[kc]? = some (.cells #[.int .i64 kd, .string nm, .int .i64 ci, .int .i64 (sI s), .int .i64 nn, .slice d.a d.n d.cap] 34 (0, 0))))
            case first =>
              as_aux_lemma =>
                rename_i hbg J0 K0 hJ0 hK0
                clear hbg
                cases v
                · go_wp2_with fail
                  go_meet
                  case rel => exact ⟨cs1, vw, vr, Wf, Rf, M1, I1, Q1, K1⟩
                · have c3 : wc.cell? ⟨kc, 3, none⟩ = some (.int .i64 (sI s)) := cell_block K1.out 3
                  have c5 : wc.cell? ⟨kc, 5, none⟩ = some (.slice d.a d.n d.cap) := cell_block K1.out 5
                  obtain ⟨cw, zw⟩ := M1.out.cw s
                  rw [show bI s = (sI s).toNat by cases s <;> rfl] at cw zw
                  have s0 : 0 ≤ sI s := by cases s <;> decide
                  have s1 : sI s < 2 := by cases s <;> decide
                  obtain ⟨av, nv, cv, hav⟩ := (M1.out.aw s).buf.sl
                  rw [hav] at cw
                  have AW : Hid (Apt wc B b row cs1 (.slice av nv cv) (Wf s)) := by have := M1.out.aw s; rw [hav] at this; exact this
                  have HAV : Hid (vw s = .slice av nv cv) := hav
                  have hne : (Value.slice av nv cv).ownBlock ≠ some bw := AW.out.buf.ne M1.out.kw (by decide)
                  have hlw := lt_of_block M1.out.kw
                  have hlk := lt_of_block K1.out
                  have hnk : (Value.slice av nv cv).ownBlock ≠ some kc := AW.out.buf.ne K1.out (by decide)
                  have hbd := BD.out.bare
                  have hdl : Hid (d.zs.length = d.n) := BD.out.len
                  have hPd : Hid (Has wc d.a d.zs) := BD.out.has.of_below (by rw [HB.out]; exact M1.out.bel)
                  have hod := BD.out.oct
                  have hsz : Hid ((Wf s).length + d.n ≤ 140737488355328) := by
                    have h1 := I1.out.wl s
                    simp only [if_true, reduceIte, upd_same] at h1
                    have h2 := HD.out
                    have h3 := hdl.out
                    simp at h1
                    show _ ≤ _
                    omega
                  have hszB := M1.out.sz
                  clear hav
                  go_wp2_with fail
                  go_region_law (refine step_append_buf _ rfl (.tmp 94) (.tmp 96) 32 rfl B i0 Try.underlying32 i0i hz0 hz1 hz2 (.slice av nv cv) (Wf s) rfl (AW.out.buf.keep fun _ _ => rfl) d.a d.n d.cap d.zs rfl hdl.out hbd hPd.out hod hsz.out hszB ?_; intro v' w8 hB8 hg8 hat8; obtain ⟨av', nv', cv', rfl⟩ := hB8.sl; have cw8 : w8.cell? ⟨bw, (sI s).toNat, none⟩ = some (.slice av nv cv) := (hg8.cell_far _ hlw (fun e => hne e.symm)).trans cw; have zw8 : w8.frozen? ⟨bw, (sI s).toNat, none⟩ = false := (hg8.frozen_far _ hlw (fun e => hne e.symm)).trans zw; have c38 : w8.cell? ⟨kc, 3, none⟩ = some (.int .i64 (sI s)) := (hg8.cell_far _ hlk (fun e => hnk e.symm)).trans c3; have c58 : w8.cell? ⟨kc, 5, none⟩ = some (.slice d.a d.n d.cap) := (hg8.cell_far _ hlk (fun e => hnk e.symm)).trans c5)
                  all_goals
                    have R := M1.out.app' s _ _ _ HAV.out hg8 hB8 hat8
                    rw [show bI s = (sI s).toNat by cases s <;> rfl] at R
                    have k8' := R.2 _ _ K1.out
                    have m8 : Hid (Mem Wo (w8.setCell ⟨bw, (sI s).toNat, none⟩ (.slice av' nv' cv')) B b row cs1 bw br (upd vw s (.slice av' nv' cv')) vr (upd Wf s (Wf s ++ d.zs)) Rf) := R.1
                    go_wp2_with fail
                    go_meet
                    case rel => exact ⟨cs1, _, _, _, _, m8, I1, Q1, k8'⟩
            case rest =>
              obtain ⟨cs2, vw2, vr2, Wf2, Rf2, M2, I2, Q2, K2⟩ := hcut
              clear M1 I1 Q1 K1
              have c0 : wc.cell? ⟨kc, 0, none⟩ = some (.int .i64 kd) := cell_block K2.out 0
              go_upto_if 101 with fail
              go_cut [] (fun wx => ∃ (cs' : List Cn) (vw' vr' : Bool → Value) (Wf' Rf' : Bool → List Int), Hid (Mem Wo wx B b row cs' bw br vw' vr' Wf' Rf') ∧ Hid (Inv cs' (sumN (ls.take (i + 1))) Wf' Rf') ∧ Hid (Cutq cs' q) ∧ Hid (wx.heap[kc]? = some (.cells #[.int .i64 kd, .string nm, .int .i64 ci, .int .i64 (sI s), .int .i64 nn, .slice d.a d.n d.cap] 34 (0, 0))))
              case first =>
                as_aux_lemma =>
                  rename_i hbg J0 K0 hJ0 hK0
                  clear hbg
                  obtain ⟨c, hc⟩ : ∃ c, cs2[ci]? = some c := ⟨cs2[ci]'(by rw [I2.out.len]; exact hci), List.getElem?_eq_getElem _⟩
                  have h1 := I2.out.siz ci c hc s
                  have h2 := HD.out
                  rw [m_us, m_ar] at h1
                  have c2 : wc.cell? ⟨kc, 2, none⟩ = some (.int .i64 ci) := cell_block K2.out 2
                  have c3 : wc.cell? ⟨kc, 3, none⟩ = some (.int .i64 (sI s)) := cell_block K2.out 3
                  have c4 : wc.cell? ⟨kc, 4, none⟩ = some (.int .i64 nn) := cell_block K2.out 4
                  by_cases hk : kd = 5
                  · subst hk
                    go_wp2_with fail
                    refine (npass M2.out.net ci c hc s nn (by omega)).mono ?_
                    rintro e w7 ⟨rfl, c7, hm7, D7⟩
                    obtain ⟨M7, K7⟩ := M2.out.dialed D7
                    have R1 : Hid (Mem Wo w7 B b row (cs2.set ci c7) bw br vw2 vr2 Wf2 Rf2) := M7
                    have R2 : Hid (Inv (cs2.set ci c7) (sumN (ls.take (i + 1))) Wf2 Rf2) := I2.out.pass hc s nn hm7
                    have R3 : Hid (Cutq (cs2.set ci c7) q) := Q2.out.set hc (by rw [hm7, pass_ct])
                    have R4 : Hid (w7.heap[kc]? = some (.cells #[.int .i64 5, .string nm, .int .i64 ci, .int .i64 (sI s), .int .i64 nn, .slice d.a d.n d.cap] 34 (0, 0))) := K7 _ _ K2.out
                    have d4 : w7.cell? ⟨kc, 4, none⟩ = some (.int .i64 nn) := cell_block R4.out 4
                    have hb := pass_bound c.m s nn
                    obtain ⟨kk, hkk⟩ : ∃ kk, (mPass c.m s nn).1 = kk := ⟨_, rfl⟩
                    obtain ⟨E, hE⟩ : ∃ E, (mPass c.m s nn).2.1 = E := ⟨_, rfl⟩
                    rw [hkk, hE] at hb ⊢
                    clear hm7 D7 M7 K7 hkk hE h1 hc
                    by_cases hE0 : E = 0
                    · subst hE0
                      obtain ⟨g1, g2⟩ := hb rfl
                      go_wp2_with fail
                      go_meet
                      case rel => exact ⟨_, _, _, _, _, R1, R2, R3, R4⟩
                    · have hEb : (E == 0) = false := beq_eq_false_iff_ne.2 hE0
                      go_wp2_with fail
                      go_meet
                      case rel => exact ⟨_, _, _, _, _, R1, R2, R3, R4⟩
                  · have hkb : (kd == 5) = false := beq_eq_false_iff_ne.2 hk
                    go_wp2_with fail
                    go_meet
                    case rel => exact ⟨_, _, _, _, _, M2, I2, Q2, K2⟩
              case rest =>
                obtain ⟨cs3, vw3, vr3, Wf3, Rf3, M3, I3, Q3, K3⟩ := hcut
                clear M2 I2 Q2 K2
                have c0 : wc.cell? ⟨kc, 0, none⟩ = some (.int .i64 kd) := cell_block K3.out 0
                go_upto_if 127 with fail
                go_cut [] (fun wx => ∃ (cs' : List Cn) (vw' vr' : Bool → Value) (Wf' Rf' : Bool → List Int), Hid (Mem Wo wx B b row cs' bw br vw' vr' Wf' Rf') ∧ Hid (Inv cs' (sumN (ls.take (i + 1))) Wf' Rf') ∧ Hid (Cutq cs' q) ∧ Hid (wx.heap[kc]? = some (.cells #[.int .i64 kd, .string nm, .int .i64 ci, .int .i64 (sI s), .int .i64 nn, .slice d.a d.n d.cap] 34 (0, 0))))
                case first =>
                  as_aux_lemma =>
                    rename_i hbg J0 K0 hJ0 hK0
                    clear hbg
                    obtain ⟨c, hc⟩ : ∃ c, cs3[ci]? = some c := ⟨cs3[ci]'(by rw [I3.out.len]; exact hci), List.getElem?_eq_getElem _⟩
                    have h1 := I3.out.siz ci c hc s
                    have h2 := HD.out
                    rw [m_us, m_ar] at h1
                    have c2 : wc.cell? ⟨kc, 2, none⟩ = some (.int .i64 ci) := cell_block K3.out 2
                    have c3 : wc.cell? ⟨kc, 3, none⟩ = some (.int .i64 (sI s)) := cell_block K3.out 3
                    by_cases hk : kd = 6
                    · subst hk
                      go_wp2_with fail
                      refine (nread M3.out.net ci c hc s).mono ?_
                      rintro e w7 ⟨v7, rfl, c7, hm7, D7, G7⟩
                      obtain ⟨M7, K7⟩ := M3.out.dialed D7
                      have R1 : Hid (Mem Wo w7 B b row (cs3.set ci c7) bw br vw3 vr3 Wf3 Rf3) := M7
                      have I7 := I3.out.read hc s hm7
                      have R3 : Hid (Cutq (cs3.set ci c7) q) := Q3.out.set hc (by rw [hm7, read_ct])
                      have R4 : Hid (w7.heap[kc]? = some (.cells #[.int .i64 6, .string nm, .int .i64 ci, .int .i64 (sI s), .int .i64 nn, .slice d.a d.n d.cap] 34 (0, 0))) := K7 _ _ K3.out
                      have d2 : w7.cell? ⟨kc, 2, none⟩ = some (.int .i64 ci) := cell_block R4.out 2
                      obtain ⟨zq, hzq⟩ : ∃ zq, (mRead c.m s).1 = zq := ⟨_, rfl⟩
                      obtain ⟨tq, htq⟩ : ∃ tq, (mRead c.m s).2.1 = tq := ⟨_, rfl⟩
                      obtain ⟨E, hE⟩ : ∃ E, (mRead c.m s).2.2.1 = E := ⟨_, rfl⟩
                      rw [hzq] at G7 I7
                      rw [hE] at I7
                      rw [htq, hE]
                      have R2 : Hid (Inv (cs3.set ci c7) (sumN (ls.take (i + 1))) Wf3 (if E = 0 ∧ ci = 1 then upd Rf3 (!s) (Rf3 (!s) ++ zq) else Rf3)) := I7
                      obtain ⟨aq, cq, hvq, hbq, hhq, _⟩ := G7.buf.form
                      subst hvq
                      have HQ : Hid (Has w7 aq zq) := hhq
                      have HOQ : Hid (Octets zq) := G7.buf.1
                      obtain ⟨m, hmq⟩ : ∃ m, zq.length = m := ⟨_, rfl⟩
                      rw [hmq]
                      have HLQ : Hid (zq.length = m) := hmq
                      clear hm7 D7 M7 K7 I7 hzq htq hE h1 hc G7 hhq hmq
                      by_cases hE0 : E = 0
                      · subst hE0
                        by_cases hc1 : ci = 1
                        · subst hc1
                          have R5 : Hid (Inv (cs3.set 1 c7) (sumN (ls.take (i + 1))) Wf3 (upd Rf3 (!s) (Rf3 (!s) ++ zq))) := by have := R2.out; rw [if_pos ⟨rfl, rfl⟩] at this; exact this
                          clear R2
                          obtain ⟨cw, zw⟩ := R1.out.cr (!s)
                          obtain ⟨av, nv, cv, hav⟩ := (R1.out.ar (!s)).buf.sl
                          rw [hav] at cw
                          have AR : Hid (Apt w7 B b row (cs3.set 1 c7) (.slice av nv cv) (Rf3 (!s))) := by have := R1.out.ar (!s); rw [hav] at this; exact this
                          have HAV : Hid (vr3 (!s) = .slice av nv cv) := hav
                          have hne : (Value.slice av nv cv).ownBlock ≠ some br := AR.out.buf.ne R1.out.kr (by decide)
                          have hlw := lt_of_block R1.out.kr
                          have hlk := lt_of_block R4.out
                          have hnk : (Value.slice av nv cv).ownBlock ≠ some kc := AR.out.buf.ne R4.out (by decide)
                          have hsz : Hid ((Rf3 (!s)).length + m ≤ 140737488355328) := by
                            obtain ⟨t, ht⟩ := R5.out.pre (!s)
                            have h1 := R5.out.wl (!s)
                            rw [ht, upd_same] at h1
                            have h3 := HLQ.out
                            simp at h1
                            show _ ≤ _
                            omega
                          have hszB := R1.out.sz
                          clear hav
                          cases s
                          · have hwr0 : IntKind.i64.wrap 0 = 0 := by decide
                            have hwr1 : IntKind.i64.wrap 1 = 1 := by decide
                            have d3 : w7.cell? ⟨kc, 3, none⟩ = some (.int .i64 0) := cell_block R4.out 3
                            replace cw : w7.cell? ⟨br, 1, none⟩ = some (.slice av nv cv) := cw
                            replace zw : w7.frozen? ⟨br, 1, none⟩ = false := zw
                            go_wp2_with fail
                            go_region_law (refine step_append_buf _ rfl (.tmp 152) (.tmp 153) 32 rfl B i0 Try.underlying32 i0i hz0 hz1 hz2 (.slice av nv cv) (Rf3 true) rfl (AR.out.buf.keep fun _ _ => rfl) aq m cq zq rfl HLQ.out hbq HQ.out HOQ.out hsz.out hszB ?_; intro v' w8 hB8 hg8 hat8; obtain ⟨av', nv', cv', rfl⟩ := hB8.sl; have cw8 : w8.cell? ⟨br, 1, none⟩ = some (.slice av nv cv) := (hg8.cell_far _ hlw (fun e => hne e.symm)).trans cw; have zw8 : w8.frozen? ⟨br, 1, none⟩ = false := (hg8.frozen_far _ hlw (fun e => hne e.symm)).trans zw; have d38 : w8.cell? ⟨kc, 3, none⟩ = some (.int .i64 0) := (hg8.cell_far _ hlk (fun e => hnk e.symm)).trans d3)
                            all_goals
                              obtain ⟨m8, k8⟩ := R1.out.appr' true _ _ _ HAV.out hg8 hB8 hat8
                              have k8' := k8 _ _ R4.out
                              have m8 : Hid (Mem Wo (w8.setCell ⟨br, 1, none⟩ (.slice av' nv' cv')) B b row (cs3.set 1 c7) bw br vw3 (upd vr3 true (.slice av' nv' cv')) Wf3 (upd Rf3 true (Rf3 true ++ zq))) := m8
                              clear hB8 hg8 hat8 k8
                              go_wp2_with fail
                              go_meet
                              case rel => exact ⟨_, _, _, _, _, m8, R5, R3, k8'⟩
                          · have hwr0 : IntKind.i64.wrap 0 = 0 := by decide
                            have hwr1 : IntKind.i64.wrap 1 = 1 := by decide
                            have d3 : w7.cell? ⟨kc, 3, none⟩ = some (.int .i64 1) := cell_block R4.out 3
                            replace cw : w7.cell? ⟨br, 0, none⟩ = some (.slice av nv cv) := cw
                            replace zw : w7.frozen? ⟨br, 0, none⟩ = false := zw
                            go_wp2_with fail
                            go_region_law (refine step_append_buf _ rfl (.tmp 152) (.tmp 153) 32 rfl B i0 Try.underlying32 i0i hz0 hz1 hz2 (.slice av nv cv) (Rf3 false) rfl (AR.out.buf.keep fun _ _ => rfl) aq m cq zq rfl HLQ.out hbq HQ.out HOQ.out hsz.out hszB ?_; intro v' w8 hB8 hg8 hat8; obtain ⟨av', nv', cv', rfl⟩ := hB8.sl; have cw8 : w8.cell? ⟨br, 0, none⟩ = some (.slice av nv cv) := (hg8.cell_far _ hlw (fun e => hne e.symm)).trans cw; have zw8 : w8.frozen? ⟨br, 0, none⟩ = false := (hg8.frozen_far _ hlw (fun e => hne e.symm)).trans zw; have d38 : w8.cell? ⟨kc, 3, none⟩ = some (.int .i64 1) := (hg8.cell_far _ hlk (fun e => hnk e.symm)).trans d3)
                            all_goals
                              obtain ⟨m8, k8⟩ := R1.out.appr' false _ _ _ HAV.out hg8 hB8 hat8
                              have k8' := k8 _ _ R4.out
                              have m8 : Hid (Mem Wo (w8.setCell ⟨br, 0, none⟩ (.slice av' nv' cv')) B b row (cs3.set 1 c7) bw br vw3 (upd vr3 false (.slice av' nv' cv')) Wf3 (upd Rf3 false (Rf3 false ++ zq))) := m8
                              clear hB8 hg8 hat8 k8
                              go_wp2_with fail
                              go_meet
                              case rel => exact ⟨_, _, _, _, _, m8, R5, R3, k8'⟩
                        · have h1b : ((ci : Int) == 1) = false := beq_eq_false_iff_ne.2 (by omega)
                          have R5 : Hid (Inv (cs3.set ci c7) (sumN (ls.take (i + 1))) Wf3 Rf3) := by have := R2.out; rw [if_neg (fun e => hc1 e.2)] at this; exact this
                          clear R2
                          go_wp2_with fail
                          go_meet
                          case rel => exact ⟨_, _, _, _, _, R1, R5, R3, R4⟩
                      · have hEb : (E == 0) = false := beq_eq_false_iff_ne.2 hE0
                        have R5 : Hid (Inv (cs3.set ci c7) (sumN (ls.take (i + 1))) Wf3 Rf3) := by have := R2.out; rw [if_neg (fun e => hE0 e.1)] at this; exact this
                        clear R2
                        go_wp2_with fail
                        go_meet
                        case rel => exact ⟨_, _, _, _, _, R1, R5, R3, R4⟩
                    · have hkb : (kd == 6) = false := beq_eq_false_iff_ne.2 hk
                      go_wp2_with fail
                      go_meet
                      case rel => exact ⟨_, _, _, _, _, M3, I3, Q3, K3⟩
                case rest =>
                  obtain ⟨cs4, vw4, vr4, Wf4, Rf4, M4, I4, Q4, K4⟩ := hcut
                  clear M3 I3 Q3 K3
                  have c0 : wc.cell? ⟨kc, 0, none⟩ = some (.int .i64 kd) := cell_block K4.out 0
                  go_upto_if 158 with fail
                  go_cut [] (fun wx => ∃ (cs' : List Cn) (vw' vr' : Bool → Value) (Wf' Rf' : Bool → List Int), Hid (Mem Wo wx B b row cs' bw br vw' vr' Wf' Rf') ∧ Hid (Inv cs' (sumN (ls.take (i + 1))) Wf' Rf') ∧ Hid (Cutq cs' q) ∧ Hid (wx.heap[kc]? = some (.cells #[.int .i64 kd, .string nm, .int .i64 ci, .int .i64 (sI s), .int .i64 nn, .slice d.a d.n d.cap] 34 (0, 0))))
                  case first =>
                    as_aux_lemma =>
                      rename_i hbg J0 K0 hJ0 hK0
                      clear hbg
                      obtain ⟨c, hc⟩ : ∃ c, cs4[ci]? = some c := ⟨cs4[ci]'(by rw [I4.out.len]; exact hci), List.getElem?_eq_getElem _⟩
                      have h1 := I4.out.siz ci c hc s
                      have h2 := HD.out
                      rw [m_us, m_ar] at h1
                      have c2 : wc.cell? ⟨kc, 2, none⟩ = some (.int .i64 ci) := cell_block K4.out 2
                      have c3 : wc.cell? ⟨kc, 3, none⟩ = some (.int .i64 (sI s)) := cell_block K4.out 3
                      by_cases hk : kd = 4
                      · subst hk
                        go_wp2_with fail
                        refine (nclose M4.out.net ci c hc s (by omega)).mono ?_
                        rintro e w7 ⟨rfl, c7, hm7, D7⟩
                        obtain ⟨M7, K7⟩ := M4.out.dialed D7
                        have R1 : Hid (Mem Wo w7 B b row (cs4.set ci c7) bw br vw4 vr4 Wf4 Rf4) := M7
                        have R2 : Hid (Inv (cs4.set ci c7) (sumN (ls.take (i + 1))) Wf4 Rf4) := I4.out.close hc s hm7
                        have R3 : Hid (Cutq (cs4.set ci c7) q) := Q4.out.set hc (by rw [hm7, close_ct])
                        have R4 : Hid (w7.heap[kc]? = some (.cells #[.int .i64 4, .string nm, .int .i64 ci, .int .i64 (sI s), .int .i64 nn, .slice d.a d.n d.cap] 34 (0, 0))) := K7 _ _ K4.out
                        clear hm7 D7 M7 K7 h1 hc
                        go_wp2_with fail
                        go_meet
                        case rel => exact ⟨_, _, _, _, _, R1, R2, R3, R4⟩
                      · have hkb : (kd == 4) = false := beq_eq_false_iff_ne.2 hk
                        go_wp2_with fail
                        go_meet
                        case rel => exact ⟨_, _, _, _, _, M4, I4, Q4, K4⟩
                  case rest =>
                    obtain ⟨cs5, vw5, vr5, Wf5, Rf5, M5, I5, Q5, K5⟩ := hcut
                    clear M4 I4 Q4 K4
                    have c0 : wc.cell? ⟨kc, 0, none⟩ = some (.int .i64 kd) := cell_block K5.out 0
                    go_upto_if 167 with fail
                    go_cut [8] (fun t wx => ∃ (q' : Bool) (cs' : List Cn) (vw' vr' : Bool → Value) (Wf' Rf' : Bool → List Int), t = .bool q' ∧ Hid (Mem Wo wx B b row cs' bw br vw' vr' Wf' Rf') ∧ Hid (Inv cs' (sumN (ls.take (i + 1))) Wf' Rf') ∧ Hid (Cutq cs' q'))
                    case first =>
                      as_aux_lemma =>
                        rename_i hbg J0 K0 hJ0 hK0
                        clear hbg
                        obtain ⟨c, hc⟩ : ∃ c, cs5[ci]? = some c := ⟨cs5[ci]'(by rw [I5.out.len]; exact hci), List.getElem?_eq_getElem _⟩
                        have c2 : wc.cell? ⟨kc, 2, none⟩ = some (.int .i64 ci) := cell_block K5.out 2
                        by_cases hk : kd = 7
                        · subst hk
                          go_wp2_with fail
                          refine (ncut M5.out.net ci c hc).mono ?_
                          rintro e w7 ⟨rfl, c7, hm7, D7⟩
                          obtain ⟨M7, K7⟩ := M5.out.dialed D7
                          obtain ⟨i7, t7⟩ := I5.out.cut hc hm7
                          have R1 : Hid (Mem Wo w7 B b row (cs5.set ci c7) bw br vw5 vr5 Wf5 Rf5) := M7
                          have R2 : Hid (Inv (cs5.set ci c7) (sumN (ls.take (i + 1))) Wf5 Rf5) := i7
                          have R3 : Hid (Cutq (cs5.set ci c7) (q || decide (ci = 1))) := Q5.out.cut hc t7
                          have R4 := K7 _ _ K5.out
                          have d2 : w7.cell? ⟨kc, 2, none⟩ = some (.int .i64 ci) := cell_block R4 2
                          clear hm7 D7 M7 K7 hc i7 t7 R4
                          cases q
                          · by_cases hc1 : ci = 1
                            · subst hc1
                              go_wp2_with fail
                              go_meet
                              case rel => exact ⟨true, _, _, _, _, _, rfl, R1, R2, R3⟩
                            · have h1b : ((ci : Int) == 1) = false := beq_eq_false_iff_ne.2 (by omega)
                              have R5 : Hid (Cutq (cs5.set ci c7) false) := by have := R3.out; rw [decide_eq_false hc1] at this; exact this
                              clear R3
                              go_wp2_with fail
                              go_meet
                              case rel => exact ⟨false, _, _, _, _, _, rfl, R1, R2, R5⟩
                          · have R5 : Hid (Cutq (cs5.set ci c7) true) := by have := R3.out; rw [Bool.true_or] at this; exact this
                            clear R3
                            go_wp2_with fail
                            go_meet
                            case rel => exact ⟨true, _, _, _, _, _, rfl, R1, R2, R5⟩
                        · have hkb : (kd == 7) = false := beq_eq_false_iff_ne.2 hk
                          go_wp2_with fail
                          go_meet
                          case rel => exact ⟨q, _, _, _, _, _, rfl, M5, I5, Q5⟩
                    case rest =>
                      obtain ⟨q6, cs6, vw6, vr6, Wf6, Rf6, rfl, M6, I6, Q6⟩ := hcut
                      clear M5 I5 Q5 K5 c0 BD
                      obtain ⟨wold, hwold⟩ : ∃ W, W = wr := ⟨_, rfl⟩
                      subst hwold
                      go_wp2_with fail
                      go_loopw [16] (fun t wx => ∃ k : Nat, k ≤ 2 ∧ t = .int .i64 k ∧ Hid (Mem Wo wx B b row cs6 bw br vw6 vr6 Wf6 Rf6)) (fun t _ => 2 - (intOf t).toNat)
                      case atStart => exact ⟨0, by omega, rfl, M6⟩
                      case round =>
                        obtain ⟨k, hk, rfl, Mk⟩ := hrel
                        clear M6
                        by_cases hk2 : k < 2
                        · obtain ⟨kb, hkb⟩ : ∃ kb : Bool, k = bI kb := by
                            by_cases h : k = 0
                            · exact ⟨false, h⟩
                            · exact ⟨true, by show k = 1; omega⟩
                          obtain ⟨cr, _⟩ := Mk.out.cr kb
                          obtain ⟨cw, _⟩ := Mk.out.cw kb
                          rw [← hkb] at cr cw
                          obtain ⟨ra, rc, hr, _, rh, _⟩ := (Mk.out.ar kb).buf.form
                          obtain ⟨wa, wcp, hw, _, wh, wl, _⟩ := (Mk.out.aw kb).buf.form
                          rw [hr] at cr
                          rw [hw] at cw
                          obtain ⟨tl, htl⟩ := I6.out.pre kb
                          have hle : (Rf6 kb).length ≤ (Wf6 kb).length := by rw [htl]; simp
                          have htake : (Wf6 kb).take (Rf6 kb).length = Rf6 kb := by rw [htl]; simp
                          have hwh := has_front wh _ hle
                          rw [htake] at hwh
                          have hsm := I6.out.wl kb
                          have hsm2 := HD.out
                          obtain ⟨nr, hnr⟩ : ∃ nr, (Rf6 kb).length = nr := ⟨_, rfl⟩
                          obtain ⟨nw, hnw⟩ : ∃ nw, (Wf6 kb).length = nw := ⟨_, rfl⟩
                          rw [hnr] at cr hle
                          rw [hnw] at cw hle wl hsm
                          have HNR : Hid ((Rf6 kb).length = nr) := hnr
                          have HR : Hid (Has wr ra (Rf6 kb)) := rh
                          have HW : Hid (Has wr wa (Rf6 kb)) := hwh
                          have hnl : ¬ nw < nr := by omega
                          have hnc : nr ≤ wcp := by omega
                          have hn47 : nr ≤ 140737488355328 := by omega
                          have k0 : (0 : Int) ≤ k := by omega
                          have k1 : (k : Int) < 2 := by omega
                          clear hr hw hnr hnw rh wh hwh htake htl tl hsm hsm2 hkb
                          go_wp2_with fail
                          go_region_held3 (fun w' => w'.cell? ⟨br, k, none⟩ = some (.slice ra nr rc) ∧ w'.cell? ⟨bw, k, none⟩ = some (.slice wa nw wcp)) (go_keep)
                            (first | (go_at_call 19; refine (same_any ra wa nr rc wcp (Rf6 kb) _ HNR.out (has_drew HR.out) (has_drew HW.out) hn47).mono ?_; rintro e w9 ⟨rfl, q9, hq9⟩; have M9 : Hid (Mem Wo w9 B b row cs6 bw br vw6 vr6 Wf6 Rf6) := (by show Mem _ _ _ _ _ _ _ _ _ _ _ _; rw [hq9]; exact Mk.out.drew.drewN q9); have cr9 : w9.cell? ⟨br, k, none⟩ = some (.slice ra nr rc) := (by rw [hq9]; exact cr); have cw9 : w9.cell? ⟨bw, k, none⟩ = some (.slice wa nw wcp) := (by rw [hq9]; exact cw); clear hq9))
                          go_wp2_with fail
                          go_roundw
                          case rel => exact ⟨k + 1, by omega, by go_num, M9⟩
                          case measure => simp [intOf]; omega
                        · go_wp2_with fail
                          go_roundw
                          case rel => exact ⟨i + 1, cs6, vw6, vr6, Wf6, Rf6, q6, by omega, rfl, by go_num, Mk, I6, Q6⟩
                          case measure => simp [intOf]; omega
    · have hdone := hlt
      obtain ⟨wold, hwold⟩ : ∃ W, W = wr := ⟨_, rfl⟩
      subst hwold
      obtain ⟨c, hc⟩ : ∃ c, cs[1]? = some c := ⟨cs[1]'(by rw [Ir.out.len]; omega), List.getElem?_eq_getElem _⟩
      have hD : sumN (ls.take i) ≤ 1048576 := Nat.le_trans (sumN_le ls _) HS.out
      have HCc : Hid (cs[1]? = some c) := hc
      clear hc
      cases q
      · go_wp2_with fail
        go_loopw [20] (fun t wx => ∃ (k : Nat) (cs' : List Cn) (vr' : Bool → Value) (Rf' : Bool → List Int), k ≤ 2 ∧ t = .int .i64 k ∧ Hid (Mem Wo wx B b row cs' bw br vw vr' Wf Rf') ∧ Hid (Inv cs' (sumN (ls.take i)) Wf Rf') ∧ Hid (Cutq cs' false)) (fun t _ => 2 - (intOf t).toNat)
        case atStart => exact ⟨0, cs, vr, Rf, by omega, rfl, Mr, Ir, Qr⟩
        case round =>
          obtain ⟨k, cs1, vr1, Rf1, hk, rfl, M1, I1, Q1⟩ := hrel
          clear Mr Ir Qr HCc
          obtain ⟨c1, hc1⟩ : ∃ c1, cs1[1]? = some c1 := ⟨cs1[1]'(by rw [I1.out.len]; omega), List.getElem?_eq_getElem _⟩
          have ct1 := Q1.out c1 hc1
          by_cases hk2 : k < 2
          · by_cases hk0 : k = 0
            · subst hk0
              have h1 := I1.out.siz 1 c1 hc1 false
              rw [m_us, m_ar] at h1
              go_wp2_with fail
              refine (npass M1.out.net 1 c1 hc1 false 1099511627776 (by omega)).mono ?_
              rintro e w7 ⟨rfl, c7, hm7, D7⟩
              obtain ⟨M7, _⟩ := M1.out.dialed D7
              have hus : (c1.m.sd false).us.length ≤ 1048576 := by rw [m_us]; omega
              have I7 := I1.out.pass hc1 false 1099511627776 hm7
              have P7 := pass_all c1.m false ct1 (Nat.le_trans hus (by decide))
              rw [← hm7] at P7
              have R1 : Hid (Mem Wo w7 B b row (cs1.set 1 c7) bw br vw vr1 Wf Rf1) := M7
              have R2 : Hid (Inv (cs1.set 1 c7) (sumN (ls.take i)) Wf Rf1) := I7
              have hc7 : Hid ((cs1.set 1 c7)[1]? = some c7) := by show _ = _; rw [List.getElem?_set]; simp [I1.out.len]
              have R3 : Hid (c7.m.ct = false ∧ (c7.m.sd false).us = []) := ⟨by rw [hm7, pass_ct]; exact ct1, P7⟩
              obtain ⟨kk, hkk⟩ : ∃ kk, (mPass c1.m false 1099511627776).1 = kk := ⟨_, rfl⟩
              obtain ⟨E, hE⟩ : ∃ E, (mPass c1.m false 1099511627776).2.1 = E := ⟨_, rfl⟩
              rw [hkk, hE]
              clear hm7 D7 M7 I7 P7 hkk hE h1 hus M1 I1 Q1 hc1 ct1
              go_wp2_with fail
              refine (nread R1.out.net 1 c7 hc7.out true).mono ?_
              rintro e w8 ⟨v8, rfl, c8, hm8, D8, G8⟩
              have e8 : mRead c7.m true = ((c7.m.sd true).ar, (c7.m.sd (!true)).to, 0, c7.m.set true { c7.m.sd true with ar := [] }) := by unfold mRead; rw [if_neg (by rw [R3.out.1]; decide)]
              obtain ⟨M8, _⟩ := R1.out.dialed D8
              have I8 := R2.out.read hc7.out true hm8
              rw [e8] at I8 hm8 G8 ⊢
              rw [if_pos ⟨rfl, rfl⟩] at I8
              have T1 : Hid (Mem Wo w8 B b row ((cs1.set 1 c7).set 1 c8) bw br vw vr1 Wf Rf1) := M8
              have hc8 : Hid (((cs1.set 1 c7).set 1 c8)[1]? = some c8) := by show _ = _; rw [List.getElem?_set]; simp [R2.out.len]
              have T2 : Hid (Inv ((cs1.set 1 c7).set 1 c8) (sumN (ls.take i)) Wf (upd Rf1 false (Rf1 false ++ (c7.m.sd true).ar))) := I8
              have ct8 : c8.m.ct = false := by rw [hm8]; exact R3.out.1
              have us8 : (c8.m.sd false).us = [] := by rw [hm8]; exact R3.out.2
              have ar8 : (c8.m.sd true).ar = [] := by rw [hm8]; rfl
              have T3 : Hid (c8.m.ct = false ∧ mUnder c8.m false = 0 ∧ Wf false = Rf1 false ++ (c7.m.sd true).ar) := by
                refine ⟨ct8, by unfold mUnder; rw [if_neg (by rw [ct8]; decide), us8]; rfl, ?_⟩
                have := (T2.out.con c8 hc8.out).all ct8 false
                rw [upd_same, show (!false) = true from rfl, ar8, us8] at this
                simpa using this
              have T4 : Hid (Cutq ((cs1.set 1 c7).set 1 c8) false) := fun c hc => by
                have h := hc8.out
                rw [h] at hc
                cases hc
                exact ct8
              obtain ⟨tq, htq⟩ : ∃ tq, (c7.m.sd (!true)).to = tq := ⟨_, rfl⟩
              obtain ⟨zq, hzq⟩ : ∃ zq, (c7.m.sd true).ar = zq := ⟨_, rfl⟩
              rw [htq]
              rw [hzq] at T2 T3 G8
              obtain ⟨aq, cq, hvq, hbq, hhq, _⟩ := G8.buf.form
              subst hvq
              obtain ⟨m, hmq⟩ : ∃ m, zq.length = m := ⟨_, rfl⟩
              rw [hmq]
              have HLQ : Hid (zq.length = m) := hmq
              have HQ : Hid (Has w8 aq zq) := hhq
              have HOQ : Hid (Octets zq) := G8.buf.1
              obtain ⟨cw, zw⟩ := T1.out.cr false
              obtain ⟨av, nv, cv, hav⟩ := (T1.out.ar false).buf.sl
              rw [hav] at cw
              replace cw : w8.cell? ⟨br, 0, none⟩ = some (.slice av nv cv) := cw
              replace zw : w8.frozen? ⟨br, 0, none⟩ = false := zw
              have AR : Hid (Apt w8 B b row ((cs1.set 1 c7).set 1 c8) (.slice av nv cv) (Rf1 false)) := by have := T1.out.ar false; rw [hav] at this; exact this
              have HAV : Hid (vr1 false = .slice av nv cv) := hav
              have hne : (Value.slice av nv cv).ownBlock ≠ some br := AR.out.buf.ne T1.out.kr (by decide)
              have hlw := lt_of_block T1.out.kr
              have hwl := T2.out.wl false
              have hWl : (Wf false).length = (Rf1 false).length + m := by rw [T3.out.2.2]; simp [hmq]
              have hsz : Hid ((Rf1 false).length + m ≤ 140737488355328) := by show _ ≤ _; omega
              have hszB := T1.out.sz
              clear hm8 D8 M8 I8 e8 G8 hhq hmq hzq htq hav ct8 us8 ar8 R1 R2 R3 hc7
              go_wp2_with (at_builtin; refine wpList_append_buf _ rfl (.tmp 243) (.tmp 244) 32 rfl B i0 Try.underlying32 i0i hz0 hz1 hz2 (.slice av nv cv) (Rf1 false) rfl AR.out.buf aq m cq zq rfl HLQ.out hbq HQ.out HOQ.out hsz.out hszB ?_; intro v' w9 hB9 hg9 hat9; obtain ⟨av', nv', cv', rfl⟩ := hB9.sl; have cw9 : w9.cell? ⟨br, 0, none⟩ = some (.slice av nv cv) := (hg9.cell_far _ hlw (fun e => hne e.symm)).trans cw; have zw9 : w9.frozen? ⟨br, 0, none⟩ = false := (hg9.frozen_far _ hlw (fun e => hne e.symm)).trans zw; have MM := (T1.out.appr false _ _ (by rw [HAV.out]; exact hg9) hB9 (by rw [HAV.out]; exact hat9)).1; have U1 : Hid (Mem Wo (w9.setCell ⟨br, 0, none⟩ (.slice av' nv' cv')) B b row ((cs1.set 1 c7).set 1 c8) bw br vw (upd vr1 false (.slice av' nv' cv')) Wf (upd Rf1 false (Rf1 false ++ zq))) := MM; clear MM hB9 hg9 hat9)
              obtain ⟨w10, hw10⟩ : ∃ W, w9.setCell ⟨br, 0, none⟩ (.slice av' nv' cv') = W := ⟨_, rfl⟩
              rw [hw10] at U1 ⊢
              clear hw10 cw zw cw9 zw9 hne hlw hszB AR
              obtain ⟨cr, _⟩ := U1.out.cr false
              obtain ⟨cw, _⟩ := U1.out.cw false
              obtain ⟨ra, rc, hr, _, rh, _⟩ := (U1.out.ar false).buf.form
              obtain ⟨wa, wcp, hw, _, wh, _⟩ := (U1.out.aw false).buf.form
              rw [hr] at cr
              rw [hw] at cw
              rw [upd_same, ← T3.out.2.2] at cr rh
              obtain ⟨nw, hnw⟩ : ∃ nw, (Wf false).length = nw := ⟨_, rfl⟩
              rw [hnw] at cr cw hWl
              replace cr : w10.cell? ⟨br, 0, none⟩ = some (.slice ra nw rc) := cr
              replace cw : w10.cell? ⟨bw, 0, none⟩ = some (.slice wa nw wcp) := cw
              have HNW : Hid ((Wf false).length = nw) := hnw
              have HR : Hid (Has w10 ra (Wf false)) := rh
              have HW : Hid (Has w10 wa (Wf false)) := wh
              have hn47 : nw ≤ 140737488355328 := by have := hsz.out; omega
              clear hr hw rh wh hnw hWl hwl hsz
              go_wp2_with fail
              go_region_held3 (fun w' => w'.cell? ⟨br, 0, none⟩ = some (.slice ra nw rc) ∧ w'.cell? ⟨bw, 0, none⟩ = some (.slice wa nw wcp)) (go_keep)
                (first | (go_at_call 19; refine (same_any ra wa nw rc wcp (Wf false) _ HNW.out (has_drew HR.out) (has_drew HW.out) hn47).mono ?_; rintro e w11 ⟨rfl, q9, hq9⟩; have U2 : Hid (Mem Wo w11 B b row ((cs1.set 1 c7).set 1 c8) bw br vw (upd vr1 false (.slice av' nv' cv')) Wf (upd Rf1 false (Rf1 false ++ zq))) := (by show Mem _ _ _ _ _ _ _ _ _ _ _ _; rw [hq9]; exact U1.out.drew.drewN q9); have cr9 : w11.cell? ⟨br, 0, none⟩ = some (.slice ra nw rc) := (by rw [hq9]; exact cr); have cw9 : w11.cell? ⟨bw, 0, none⟩ = some (.slice wa nw wcp) := (by rw [hq9]; exact cw); clear hq9) | (go_at_call 9; refine (nunder U2.out.net 1 c8 hc8.out false).mono ?_; rintro e w12 ⟨h12, rfl⟩; subst h12; rw [T3.out.2.1]))
              go_wp2_with fail
              go_roundw
              case rel => exact ⟨0 + 1, _, _, _, by omega, rfl, U2, T2, T4⟩
              case measure => simp [intOf]
            · obtain rfl : k = 1 := by omega
              have h1 := I1.out.siz 1 c1 hc1 true
              rw [m_us, m_ar] at h1
              go_wp2_with fail
              refine (npass M1.out.net 1 c1 hc1 true 1099511627776 (by omega)).mono ?_
              rintro e w7 ⟨rfl, c7, hm7, D7⟩
              obtain ⟨M7, _⟩ := M1.out.dialed D7
              have hus : (c1.m.sd true).us.length ≤ 1048576 := by rw [m_us]; omega
              have I7 := I1.out.pass hc1 true 1099511627776 hm7
              have P7 := pass_all c1.m true ct1 (Nat.le_trans hus (by decide))
              rw [← hm7] at P7
              have R1 : Hid (Mem Wo w7 B b row (cs1.set 1 c7) bw br vw vr1 Wf Rf1) := M7
              have R2 : Hid (Inv (cs1.set 1 c7) (sumN (ls.take i)) Wf Rf1) := I7
              have hc7 : Hid ((cs1.set 1 c7)[1]? = some c7) := by show _ = _; rw [List.getElem?_set]; simp [I1.out.len]
              have R3 : Hid (c7.m.ct = false ∧ (c7.m.sd true).us = []) := ⟨by rw [hm7, pass_ct]; exact ct1, P7⟩
              obtain ⟨kk, hkk⟩ : ∃ kk, (mPass c1.m true 1099511627776).1 = kk := ⟨_, rfl⟩
              obtain ⟨E, hE⟩ : ∃ E, (mPass c1.m true 1099511627776).2.1 = E := ⟨_, rfl⟩
              rw [hkk, hE]
              clear hm7 D7 M7 I7 P7 hkk hE h1 hus M1 I1 Q1 hc1 ct1
              go_wp2_with fail
              refine (nread R1.out.net 1 c7 hc7.out false).mono ?_
              rintro e w8 ⟨v8, rfl, c8, hm8, D8, G8⟩
              have e8 : mRead c7.m false = ((c7.m.sd false).ar, (c7.m.sd (!false)).to, 0, c7.m.set false { c7.m.sd false with ar := [] }) := by unfold mRead; rw [if_neg (by rw [R3.out.1]; decide)]
              obtain ⟨M8, _⟩ := R1.out.dialed D8
              have I8 := R2.out.read hc7.out false hm8
              rw [e8] at I8 hm8 G8 ⊢
              rw [if_pos ⟨rfl, rfl⟩] at I8
              have T1 : Hid (Mem Wo w8 B b row ((cs1.set 1 c7).set 1 c8) bw br vw vr1 Wf Rf1) := M8
              have hc8 : Hid (((cs1.set 1 c7).set 1 c8)[1]? = some c8) := by show _ = _; rw [List.getElem?_set]; simp [R2.out.len]
              have T2 : Hid (Inv ((cs1.set 1 c7).set 1 c8) (sumN (ls.take i)) Wf (upd Rf1 true (Rf1 true ++ (c7.m.sd false).ar))) := I8
              have ct8 : c8.m.ct = false := by rw [hm8]; exact R3.out.1
              have us8 : (c8.m.sd true).us = [] := by rw [hm8]; exact R3.out.2
              have ar8 : (c8.m.sd false).ar = [] := by rw [hm8]; rfl
              have T3 : Hid (c8.m.ct = false ∧ mUnder c8.m true = 0 ∧ Wf true = Rf1 true ++ (c7.m.sd false).ar) := by
                refine ⟨ct8, by unfold mUnder; rw [if_neg (by rw [ct8]; decide), us8]; rfl, ?_⟩
                have := (T2.out.con c8 hc8.out).all ct8 true
                rw [upd_same, show (!true) = false from rfl, ar8, us8] at this
                simpa using this
              have T4 : Hid (Cutq ((cs1.set 1 c7).set 1 c8) false) := fun c hc => by
                have h := hc8.out
                rw [h] at hc
                cases hc
                exact ct8
              obtain ⟨tq, htq⟩ : ∃ tq, (c7.m.sd (!false)).to = tq := ⟨_, rfl⟩
              obtain ⟨zq, hzq⟩ : ∃ zq, (c7.m.sd false).ar = zq := ⟨_, rfl⟩
              rw [htq]
              rw [hzq] at T2 T3 G8
              obtain ⟨aq, cq, hvq, hbq, hhq, _⟩ := G8.buf.form
              subst hvq
              obtain ⟨m, hmq⟩ : ∃ m, zq.length = m := ⟨_, rfl⟩
              rw [hmq]
              have HLQ : Hid (zq.length = m) := hmq
              have HQ : Hid (Has w8 aq zq) := hhq
              have HOQ : Hid (Octets zq) := G8.buf.1
              obtain ⟨cw, zw⟩ := T1.out.cr true
              obtain ⟨av, nv, cv, hav⟩ := (T1.out.ar true).buf.sl
              rw [hav] at cw
              replace cw : w8.cell? ⟨br, 1, none⟩ = some (.slice av nv cv) := cw
              replace zw : w8.frozen? ⟨br, 1, none⟩ = false := zw
              have AR : Hid (Apt w8 B b row ((cs1.set 1 c7).set 1 c8) (.slice av nv cv) (Rf1 true)) := by have := T1.out.ar true; rw [hav] at this; exact this
              have HAV : Hid (vr1 true = .slice av nv cv) := hav
              have hne : (Value.slice av nv cv).ownBlock ≠ some br := AR.out.buf.ne T1.out.kr (by decide)
              have hlw := lt_of_block T1.out.kr
              have hwl := T2.out.wl true
              have hWl : (Wf true).length = (Rf1 true).length + m := by rw [T3.out.2.2]; simp [hmq]
              have hsz : Hid ((Rf1 true).length + m ≤ 140737488355328) := by show _ ≤ _; omega
              have hszB := T1.out.sz
              clear hm8 D8 M8 I8 e8 G8 hhq hmq hzq htq hav ct8 us8 ar8 R1 R2 R3 hc7
              go_wp2_with (at_builtin; refine wpList_append_buf _ rfl (.tmp 243) (.tmp 244) 32 rfl B i0 Try.underlying32 i0i hz0 hz1 hz2 (.slice av nv cv) (Rf1 true) rfl AR.out.buf aq m cq zq rfl HLQ.out hbq HQ.out HOQ.out hsz.out hszB ?_; intro v' w9 hB9 hg9 hat9; obtain ⟨av', nv', cv', rfl⟩ := hB9.sl; have cw9 : w9.cell? ⟨br, 1, none⟩ = some (.slice av nv cv) := (hg9.cell_far _ hlw (fun e => hne e.symm)).trans cw; have zw9 : w9.frozen? ⟨br, 1, none⟩ = false := (hg9.frozen_far _ hlw (fun e => hne e.symm)).trans zw; have MM := (T1.out.appr true _ _ (by rw [HAV.out]; exact hg9) hB9 (by rw [HAV.out]; exact hat9)).1; have U1 : Hid (Mem Wo (w9.setCell ⟨br, 1, none⟩ (.slice av' nv' cv')) B b row ((cs1.set 1 c7).set 1 c8) bw br vw (upd vr1 true (.slice av' nv' cv')) Wf (upd Rf1 true (Rf1 true ++ zq))) := MM; clear MM hB9 hg9 hat9)
              obtain ⟨w10, hw10⟩ : ∃ W, w9.setCell ⟨br, 1, none⟩ (.slice av' nv' cv') = W := ⟨_, rfl⟩
              rw [hw10] at U1 ⊢
              clear hw10 cw zw cw9 zw9 hne hlw hszB AR
              obtain ⟨cr, _⟩ := U1.out.cr true
              obtain ⟨cw, _⟩ := U1.out.cw true
              obtain ⟨ra, rc, hr, _, rh, _⟩ := (U1.out.ar true).buf.form
              obtain ⟨wa, wcp, hw, _, wh, _⟩ := (U1.out.aw true).buf.form
              rw [hr] at cr
              rw [hw] at cw
              rw [upd_same, ← T3.out.2.2] at cr rh
              obtain ⟨nw, hnw⟩ : ∃ nw, (Wf true).length = nw := ⟨_, rfl⟩
              rw [hnw] at cr cw hWl
              replace cr : w10.cell? ⟨br, 1, none⟩ = some (.slice ra nw rc) := cr
              replace cw : w10.cell? ⟨bw, 1, none⟩ = some (.slice wa nw wcp) := cw
              have HNW : Hid ((Wf true).length = nw) := hnw
              have HR : Hid (Has w10 ra (Wf true)) := rh
              have HW : Hid (Has w10 wa (Wf true)) := wh
              have hn47 : nw ≤ 140737488355328 := by have := hsz.out; omega
              clear hr hw rh wh hnw hWl hwl hsz
              go_wp2_with fail
              go_region_held3 (fun w' => w'.cell? ⟨br, 1, none⟩ = some (.slice ra nw rc) ∧ w'.cell? ⟨bw, 1, none⟩ = some (.slice wa nw wcp)) (go_keep)
                (first | (go_at_call 19; refine (same_any ra wa nw rc wcp (Wf true) _ HNW.out (has_drew HR.out) (has_drew HW.out) hn47).mono ?_; rintro e w11 ⟨rfl, q9, hq9⟩; have U2 : Hid (Mem Wo w11 B b row ((cs1.set 1 c7).set 1 c8) bw br vw (upd vr1 true (.slice av' nv' cv')) Wf (upd Rf1 true (Rf1 true ++ zq))) := (by show Mem _ _ _ _ _ _ _ _ _ _ _ _; rw [hq9]; exact U1.out.drew.drewN q9); have cr9 : w11.cell? ⟨br, 1, none⟩ = some (.slice ra nw rc) := (by rw [hq9]; exact cr); have cw9 : w11.cell? ⟨bw, 1, none⟩ = some (.slice wa nw wcp) := (by rw [hq9]; exact cw); clear hq9) | (go_at_call 9; refine (nunder U2.out.net 1 c8 hc8.out true).mono ?_; rintro e w12 ⟨h12, rfl⟩; subst h12; rw [T3.out.2.1]))
              go_wp2_with fail
              go_roundw
              case rel => exact ⟨1 + 1, _, _, _, by omega, rfl, U2, T2, T4⟩
              case measure => simp [intOf]
          · go_wp2_with fail
            go_ret
            exact ⟨rfl, M1.out.bel⟩
      · go_wp2_with fail
        refine (nread Mr.out.net 1 c HCc.out false).mono ?_
        rintro e w7 ⟨v7, rfl, c7, hm7, D7, G7⟩
        have ct := Qr.out c HCc.out
        have e7 : mRead c.m false = ([], false, 40, c.m) := by unfold mRead; rw [if_pos ct]
        rw [e7] at hm7 ⊢
        obtain ⟨M7, _⟩ := Mr.out.dialed D7
        have R1 : Hid (Mem Wo w7 B b row (cs.set 1 c7) bw br vw vr Wf Rf) := M7
        have hc7 : Hid ((cs.set 1 c7)[1]? = some c7) := by show _ = _; rw [List.getElem?_set]; simp [Ir.out.len]
        have ct7 : Hid (c7.m.ct = true) := by show _ = _; rw [hm7]; exact ct
        clear D7 G7 M7 e7 hm7
        go_wp2_with fail
        refine (nunder R1.out.net 1 c7 hc7.out false).mono ?_
        rintro e w8 ⟨h8, rfl⟩
        subst h8
        have eu : ∀ t, mUnder c7.m t = 0 := fun t => by unfold mUnder; rw [if_pos ct7.out]
        rw [eu]
        go_wp2_with fail
        refine (nunder R1.out.net 1 c7 hc7.out true).mono ?_
        rintro e w9 ⟨h9, rfl⟩
        subst h9
        rw [eu]
        clear eu
        go_wp2_with fail
        go_ret
        exact ⟨rfl, R1.out.bel⟩
end Go.Proofs.Ytcbnmoppnoiggaa
