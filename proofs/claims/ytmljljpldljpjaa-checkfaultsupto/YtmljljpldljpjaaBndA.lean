import Derived.Test.YtmljljpldljpjaaAs
import Derived.Test.YtmljljpldljpjaaDf
import Derived.Test.YtmljljpldljpjaaShs
import Derived.Shelf.SlSortCmp.NoneTotal
import Derived.OwnWalk
import Derived.Test.YtmljljpldljpjaaOu
import Derived.Test.YtmljljpldljpjaaMa
/-
  wrong, merged.
-/
namespace Go.Proofs.Ytmljljpldljpjaa
open Go.RowKit
set_option linter.unusedVariables false
set_option linter.unusedSimpArgs false
set_option maxRecDepth 100000
def wrA (o : Option (Nat × Int)) : Int := match o with | some (i, _) => (i : Int) | none => 0
def wrE (o : Option (Nat × Int)) : Int := match o with | some (_, e) => e | none => 0
/-- what wrong tells -/
def WrE (w : World) (o : Option (Nat × Int)) (e : Ending) (w' : World) : Prop := e = .returned (.tuple #[.int .i64 (wrA o), .int .i64 (wrE o)]) ∧ Below w.heap.size w w'
set_option maxHeartbeats 32000000 in
theorem wrong_any (w : World) (b : Option Addr) (m c2 : Nat) (D : List Rx) (C : List Rs) (Mc N : Nat) (hD : Lr w b D) (hm : D.length = m) (hs : m ≤ 1048576) (hC : Mp w Mc N (firstsF C)) :
    Calls Try.prog 24 #[.slice b m c2, .map (some Mc)] w fun e w' => WrE w (wrongF C (D.map Rx.toRs)) e w' := by
  have HD := hideL hD
  have HM := hideL hm
  have HC := hideL hC
  clear hD hm hC
  have HST : Hid (∀ (i : Nat) (r : Rs), (∀ (j : Nat) (x : Rs), j < i → (D.map Rx.toRs)[j]? = some x → errF C (D.map Rx.toRs) j x = 0) → (D.map Rx.toRs)[i]? = some r → errF C (D.map Rx.toRs) i r ≠ 0 → wrongF C (D.map Rx.toRs) = some (i, errF C (D.map Rx.toRs) i r)) := fun i r h1 h2 h3 => wrongF_stop h1 h2 h3
  have HAL : Hid ((∀ (j : Nat) (x : Rs), (D.map Rx.toRs)[j]? = some x → errF C (D.map Rx.toRs) j x = 0) → wrongF C (D.map Rx.toRs) = none) := fun h => wrongF_none h
  generalize wrongF C (D.map Rx.toRs) = A at HST HAL ⊢
  go_enter Try.func24, Try.ntmps24
  go_wp2_with fail
  refine (firsts_any w b m c2 D HD.out HM.out (by omega)).mono ?_
  rintro e w1 ⟨rfl, hm1, hb1⟩
  have HM1 := hideL hm1
  have HC1 := hideL (HC.out.below hb1)
  have HB1 := hideL hb1
  clear hm1 hb1
  go_wp2_with fail
  go_loopw [16] (fun t wr => ∃ (i : Nat), t = .int .i64 i ∧ i ≤ m ∧ Below w.heap.size w wr ∧ Mp wr Mc N (firstsF C) ∧ Mp wr w.heap.size m (firstsF (D.map Rx.toRs)) ∧ Hid (∀ (j : Nat) (x : Rs), j < i → (D.map Rx.toRs)[j]? = some x → errF C (D.map Rx.toRs) j x = 0)) (fun t _ => m - (intOf t).toNat)
  case atStart => exact ⟨0, rfl, by omega, HB1.out, HC1.out, HM1.out, fun j x hj => by omega⟩
  case round =>
    clear HM1 HC1 HB1 HC
    obtain ⟨i, rfl, hi, hbel, hma, hmb, HF⟩ := hrel
    have i0 : (0 : Int) ≤ i := by omega
    have HB := hideL hbel
    have HMA := hideL hma
    have HMB := hideL hmb
    clear hbel hma hmb
    by_cases h3 : i < m
    · have h3' : (i : Int) < m := by omega
      rcases hki : D[i]? with _ | o
      · have := List.getElem?_eq_none_iff.1 hki; have := HM.out; omega
      have HRO := hideL (HD.out.each o (List.mem_of_getElem? hki))
      have HK := hideL HRO.out.ok.key
      obtain ⟨g, off, rfl, d0, d1, d2, d3, d4, d5, d6, d7⟩ := (HD.out.row.below HB.out).cells hki
      have HKI : Hid ((D.map Rx.toRs)[i]? = some o.toRs) := by unfold Hid; simp [hki]
      have HBAD : Hid (∀ v : Int, errF C (D.map Rx.toRs) i o.toRs = v → v ≠ 0 → A = some (i, v)) := fun v h h0 => by rw [← h]; exact HST.out i o.toRs HF.out HKI.out (by rw [h]; exact h0)
      have HGOOD : Hid (errF C (D.map Rx.toRs) i o.toRs = 0 → ∀ (j : Nat) (x : Rs), j < i + 1 → (D.map Rx.toRs)[j]? = some x → errF C (D.map Rx.toRs) j x = 0) := fun h j x hj hx => by
        by_cases hji : j < i
        · exact HF.out j x hji hx
        · obtain rfl : j = i := by omega
          rw [HKI.out] at hx; cases hx; exact h
      have HIK : Hid (∀ W, Calls Try.prog 43 #[.int .i64 o.kd] W fun e w' => e = .returned (.bool (kindB o.kd)) ∧ w' = W) := fun W => isKind_any o.kd W
      have HKB : Hid (kindB o.kd = false ↔ (o.kd < 1 ∨ 4 < o.kd)) := by unfold Hid kindB; simp; omega
      clear hki
      go_wp2_with fail
      refine (keyOf_any _ o).mono ?_
      rintro e w3 ⟨rfl, hg3⟩
      have HG3 := hideL ((Gr.alloc wr _).trans hg3)
      have HX3 := hideL (show w3.heap[wr.heap.size]? = some (boxO o) from hg3.below.cells (heap_alloc_new wr _))
      clear hg3 d0 d1 d2 d3 d4 d5 d6 d7
      obtain ⟨B, hB⟩ : ∃ B, wr.heap.size = B := ⟨_, rfl⟩
      rw [hB] at HX3 ⊢
      unfold keyV Rs.key
      dsimp only
      have HGA := hideL (Gr.alloc w3 (.cells #[.int .i64 o.kd, .string o.nm] 74 (0, 0)))
      obtain ⟨q0, q1⟩ := key_cells w3 o.kd o.nm
      obtain ⟨w4, hw4⟩ : ∃ X, w3.alloc (.cells #[.int .i64 o.kd, .string o.nm] 74 (0, 0)) = X := ⟨_, rfl⟩
      rw [hw4] at HGA q0 q1
      have HGW := hideL (HG3.out.trans HGA.out)
      have HB4 := hideL (HB.out.trans (HGW.out.below.mono HB.out.size))
      have HMA4 := hideL (HMA.out.below HGW.out.below)
      have HMB4 := hideL (HMB.out.below HGW.out.below)
      obtain ⟨e0, e1, e2, e3, e4, e5, e6, e7⟩ := box8 (HGA.out.below.cells HX3.out)
      clear HMA HMB HX3 HG3 HGA hB
      obtain ⟨t, q', ht, hti, _⟩ := firstsF_some HKI.out
      have hlt : (Instr.lookup 61 (.map (some w.heap.size)) (.agg #[.int .i64 o.kd, .string o.nm]) false).run Try.prog w4 = .ok (.int .i64 t) w4 := (HMB4.out.look HK.out false).1 t ht
      have hlc : ∃ (v : Int) (is : Bool), (Instr.lookup 61 (.map (some Mc)) (.agg #[.int .i64 o.kd, .string o.nm]) true).run Try.prog w4 = .ok (.tuple #[.int .i64 v, .bool is]) w4 ∧ (is = false ↔ firstsF C o.key = none) := by
        rcases lookC HMA4.out HK.out with ⟨f, hf⟩ | hf
        · exact ⟨f, true, (HMA4.out.look HK.out true).1 f hf, by simp [show firstsF C o.key = some f from hf]⟩
        · exact ⟨0, false, (HMA4.out.look HK.out true).2 hf, by simp [show firstsF C o.key = none from hf]⟩
      obtain ⟨v, is, hlk, his⟩ := hlc
      have HIS := hideL his
      have HTE := hideL ht
      clear his ht
      generalize kindB o.kd = kb at HIK HKB
      cases kb
      · have HR := hideL (HBAD.out 2 (by unfold errF; rw [if_pos (HKB.out.1 rfl)]) (by decide))
        go_wp2_with (go_at_call 43; refine (HIK.out _).mono ?_; rintro e w5 ⟨rfl, hw⟩; have hw := hw.symm; subst hw)
        go_ret2
        exact ⟨by rw [HR.out]; rfl, HB4.out⟩
      · have HNK : Hid (¬ (o.kd < 1 ∨ 4 < o.kd)) := fun h => by have := HKB.out.2 h; cases this
        by_cases hte : t = i
        · subst hte
          cases hdl : o.del
          · have HR := hideL (HGOOD.out (by unfold errF; rw [if_neg HNK.out, if_neg (by simp [HTE.out]), if_neg (by simp [hdl])]))
            rw [hdl] at e7
            go_wp2_with (go_at_call 43; refine (HIK.out _).mono ?_; rintro e w5 ⟨rfl, hw⟩; have hw := hw.symm; subst hw)
            go_roundw
            case rel => exact ⟨t + 1, by go_num, by omega, HB4.out, HMA4.out, HMB4.out, HR.out⟩
            case measure => simp [intOf]; omega
          · rw [hdl] at e7
            cases is
            · have HR := hideL (HBAD.out 290 (by unfold errF; rw [if_neg HNK.out, if_neg (by simp [HTE.out]), if_pos ⟨hdl, HIS.out.1 rfl⟩]) (by decide))
              go_wp2_with (go_at_call 43; refine (HIK.out _).mono ?_; rintro e w5 ⟨rfl, hw⟩; have hw := hw.symm; subst hw)
              go_ret2
              exact ⟨by rw [HR.out]; rfl, HB4.out⟩
            · have HR := hideL (HGOOD.out (by unfold errF; rw [if_neg HNK.out, if_neg (by simp [HTE.out]), if_neg (fun h => by have := HIS.out.2 h.2; cases this)]))
              go_wp2_with (go_at_call 43; refine (HIK.out _).mono ?_; rintro e w5 ⟨rfl, hw⟩; have hw := hw.symm; subst hw)
              go_roundw
              case rel => exact ⟨t + 1, by go_num, by omega, HB4.out, HMA4.out, HMB4.out, HR.out⟩
              case measure => simp [intOf]; omega
        · have HR := hideL (HBAD.out 91 (by unfold errF; rw [if_neg HNK.out, if_pos (by rw [HTE.out]; simpa using hte)]) (by decide))
          have hte3 : ((t : Int) != (i : Int)) = true := by simp; omega
          have hte4 : ¬ (t : Int) = i := by omega
          clear hte
          go_wp2_with (go_at_call 43; refine (HIK.out _).mono ?_; rintro e w5 ⟨rfl, hw⟩; have hw := hw.symm; subst hw)
          go_ret2
          exact ⟨by rw [HR.out]; rfl, HB4.out⟩
    · have h3' : ¬ (i : Int) < m := by omega
      have HR := hideL (HAL.out (fun j x hx => HF.out j x (by have := (List.getElem?_eq_some_iff.1 hx).1; simp at this; have := HM.out; omega) hx))
      go_wp2
      go_ret2
      exact ⟨by rw [HR.out]; rfl, HB.out⟩
end Go.Proofs.Ytmljljpldljpjaa

/-
  merged.
-/
namespace Go.Proofs.Ytmljljpldljpjaa
open Go.RowKit
set_option linter.unusedVariables false
set_option linter.unusedSimpArgs false
set_option maxRecDepth 100000
theorem filter_step {l : List Rs} {i : Nat} {r : Rs} (p : Rs → Bool) (h : l[i]? = some r) : (l.take (i + 1)).filter p = (l.take i).filter p ++ (if p r = true then [r] else []) := by
  rw [take_snoc h, List.filter_append]
  by_cases hp : p r = true <;> simp [hp]
set_option maxHeartbeats 32000000 in
theorem merged_any (w : World) (a b : Option Addr) (n m c1 c2 : Nat) (C D : List Rx) (hC : Lr w a C) (hD : Lr w b D) (hn : C.length = n) (hm : D.length = m) (hs : n ≤ 1048576) (hs2 : m ≤ 1048576) :
    Calls Try.prog 26 #[.slice a n c1, .slice b m c2] w fun e w' => ∃ v os, e = .returned v ∧ Gl w w' v os ∧ os.map Rx.toRs = mergL (C.map Rx.toRs) (D.map Rx.toRs) := by
  have HC := hideL hC
  have HD := hideL hD
  have HN := hideL hn
  have HM := hideL hm
  clear hC hD hn hm
  obtain ⟨i52, hi52, hx0, hx1, hx2⟩ := info_parts Try.info52
  go_enter Try.func26, Try.ntmps26
  go_wp2_with fail
  refine (firsts_any w b m c2 D HD.out HM.out (by omega)).mono ?_
  rintro e w1 ⟨rfl, hm1, hb1⟩
  have HM1 := hideL hm1
  have HB1 := hideL hb1
  clear hm1 hb1
  go_wp2_with fail
  go_loopw [6, 17] (fun v t wr => ∃ (i : Nat) (os : List Rx), t = .int .i64 i ∧ i ≤ n ∧ Gl w wr v os ∧ os.map Rx.toRs = ((C.map Rx.toRs).take i).filter (fun r => (firstsF (D.map Rx.toRs) r.key).isNone) ∧ Mp wr w.heap.size m (firstsF (D.map Rx.toRs))) (fun _ t _ => n - (intOf t).toNat)
  case atStart => exact ⟨0, [], rfl, by omega, Gl.nil w HB1.out, rfl, HM1.out⟩
  case round =>
    clear HM1 HB1
    obtain ⟨i, os, rfl, hi, hgl, hos, hma⟩ := hrel
    have i0 : (0 : Int) ≤ i := by omega
    have hol : os.length ≤ i := by
      have := congrArg List.length hos
      have h2 := List.length_filter_le (fun r => (firstsF (D.map Rx.toRs) r.key).isNone) ((C.map Rx.toRs).take i)
      simp at this h2; omega
    obtain ⟨va, vc, rfl, _, hvc, hvm⟩ := own_form hgl.row
    have HGL := hideL hgl
    have HOS := hideL hos
    have HMA := hideL hma
    clear hgl hos hma
    by_cases h3 : i < n
    · have h3' : (i : Int) < n := by omega
      rcases hki : C[i]? with _ | o
      · have := List.getElem?_eq_none_iff.1 hki; have := HN.out; omega
      have HRO := hideL (HC.out.each o (List.mem_of_getElem? hki))
      have HK := hideL HRO.out.ok.key
      obtain ⟨g, off, rfl, d0, d1, d2, d3, d4, d5, d6, d7⟩ := (HC.out.row.below HGL.out.bel).cells hki
      have HST : Hid (((C.map Rx.toRs).take (i + 1)).filter (fun r => (firstsF (D.map Rx.toRs) r.key).isNone) = ((C.map Rx.toRs).take i).filter (fun r => (firstsF (D.map Rx.toRs) r.key).isNone) ++ (if (firstsF (D.map Rx.toRs) o.toRs.key).isNone = true then [o.toRs] else [])) := filter_step _ (by simp [hki])
      clear hki
      go_wp2_with fail
      refine (keyOf_any _ o).mono ?_
      rintro e w3 ⟨rfl, hg3⟩
      have HG3 := hideL ((Gr.alloc wr _).trans hg3)
      have HX3 := hideL (show w3.heap[wr.heap.size]? = some (boxO o) from hg3.below.cells (heap_alloc_new wr _))
      clear hg3 d0 d1 d2 d3 d4 d5 d6 d7
      obtain ⟨B, hB⟩ : ∃ B, wr.heap.size = B := ⟨_, rfl⟩
      rw [hB] at HX3 ⊢
      clear hB
      unfold keyV Rs.key
      dsimp only
      have HGL3 := hideL (HGL.out.below HG3.out.below)
      have HMA3 := hideL (HMA.out.below HG3.out.below)
      obtain ⟨e0, e1, e2, e3, e4, e5, e6, e7⟩ := box8 HX3.out
      clear HGL HMA HG3
      rcases lookC HMA3.out HK.out with ⟨f, hf⟩ | hf
      · have hlk : (Instr.lookup 61 (.map (some w.heap.size)) (.agg #[.int .i64 o.kd, .string o.nm]) true).run Try.prog w3 = .ok (.tuple #[.int .i64 f, .bool true]) w3 := (HMA3.out.look HK.out true).1 f hf
        have HN1 : Hid (os.map Rx.toRs = ((C.map Rx.toRs).take (i + 1)).filter (fun r => (firstsF (D.map Rx.toRs) r.key).isNone)) := by
          unfold Hid
          rw [HST.out, HOS.out, show firstsF (D.map Rx.toRs) o.toRs.key = some f from hf]; simp
        clear hf
        go_wp2_with fail
        go_roundw
        case rel => exact ⟨i + 1, os, by go_num, by omega, HGL3.out, HN1.out, HMA3.out⟩
        case measure => simp [intOf]; omega
      · have hlk : (Instr.lookup 61 (.map (some w.heap.size)) (.agg #[.int .i64 o.kd, .string o.nm]) true).run Try.prog w3 = .ok (.tuple #[.int .i64 0, .bool false]) w3 := (HMA3.out.look HK.out true).2 hf
        have HN1 : Hid ((os ++ [o]).map Rx.toRs = ((C.map Rx.toRs).take (i + 1)).filter (fun r => (firstsF (D.map Rx.toRs) r.key).isNone)) := by
          unfold Hid
          rw [HST.out, List.map_append, HOS.out, show firstsF (D.map Rx.toRs) o.toRs.key = none from hf]; simp
        clear hf
        have HOD : Hid ((w3.alloc (Obj.cells #[.int .i64 o.kd, .string o.nm, .slice o.ea o.eps.length o.ec, .slice o.ta o.tgs.length o.tc, .string o.host, .slice o.ra o.rus.length o.rc, .string o.route, .bool o.del] 52)).ownsRow w.heap.size 52 8 (.slice va os.length vc) os.length (rowsOf Rx.row os)) := HGL3.out.row.alloc _
        have HND : Hid (∀ j u, o.row[j]? = some u → (w3.alloc (Obj.cells #[.int .i64 o.kd, .string o.nm, .slice o.ea o.eps.length o.ec, .slice o.ta o.tgs.length o.tc, .string o.host, .slice o.ra o.rus.length o.rc, .string o.route, .bool o.del] 52)).cell? ((⟨w3.heap.size, 0, none⟩ : Addr).add j) = some u) := World.news_of_block (w := (w3.alloc (Obj.cells #[.int .i64 o.kd, .string o.nm, .slice o.ea o.eps.length o.ec, .slice o.ta o.tgs.length o.tc, .string o.host, .slice o.ra o.rus.length o.rc, .string o.route, .bool o.del] 52))) (Go.heap_alloc_new w3 _)
        have hszD : w.heap.size ≤ (w3.alloc (Obj.cells #[.int .i64 o.kd, .string o.nm, .slice o.ea o.eps.length o.ec, .slice o.ta o.tgs.length o.tc, .string o.host, .slice o.ra o.rus.length o.rc, .string o.route, .bool o.del] 52)).heap.size := Nat.le_trans HGL3.out.bel.size (by simp)
        have hlm : os.length + 1 ≤ maxLen := by unfold maxLen; omega
        have hlb : (os.length + 1) * 136 ≤ 140737488355328 := by omega
        go_wp2_with (at_builtin; refine wpList_append_at _ rfl (.tmp 30) (.tmp 32) 22 rfl w.heap.size 52 i52 _ 8 136 Try.underlying22 hi52 hx0 hx1 hx2 rfl (by decide) (.slice va os.length vc) os.length (rowsOf Rx.row os) rfl HOD.out ⟨w3.heap.size, 0, none⟩ 1 1 o.row rfl rfl HND.out (rx_one _) hlm hlb hszD ?_; intro v7 w7 hown7 hgrow7 hat7; have HG7 := hideL (HGL3.out.more (mm := 0) (p := o) hown7 hgrow7 HRO.out); have HA7 := hideL (Mp.app (mm := 0) HGL3.out.row hgrow7 HMA3.out); clear hown7 hgrow7 hat7)
        go_roundw
        case rel => exact ⟨i + 1, os ++ [o], by go_num, by omega, HG7.out, HN1.out, HA7.out⟩
        case measure => simp [intOf]; omega
    · have h3' : ¬ (i : Int) < n := by omega
      obtain rfl : i = n := by omega
      have HOC : Hid (os.map Rx.toRs = (C.map Rx.toRs).filter (fun r => (firstsF (D.map Rx.toRs) r.key).isNone)) := by
        unfold Hid
        rw [HOS.out, List.take_of_length_le (by simp; have := HN.out; omega)]
      go_wp2_with fail
      go_loopw [6, 37] (fun v t wr => ∃ (j : Nat) (os : List Rx), t = .int .i64 j ∧ j ≤ m ∧ Gl w wr v os ∧ os.map Rx.toRs = (C.map Rx.toRs).filter (fun r => (firstsF (D.map Rx.toRs) r.key).isNone) ++ ((D.map Rx.toRs).take j).filter (fun r => !r.del) ∧ os.length ≤ i + j) (fun _ t _ => m - (intOf t).toNat)
      case atStart => exact ⟨0, os, rfl, by omega, HGL.out, by rw [HOC.out]; simp, by omega⟩
      case round =>
        clear HGL HMA HOS HOC hvc hvm hol
        obtain ⟨j, os, rfl, hj, hgl, hos, hol⟩ := hrel
        have j0 : (0 : Int) ≤ j := by omega
        obtain ⟨va, vc, rfl, _, hvc, hvm⟩ := own_form hgl.row
        have HGL := hideL hgl
        have HOS := hideL hos
        clear hgl hos
        by_cases h4 : j < m
        · have h4' : (j : Int) < m := by omega
          rcases hki : D[j]? with _ | o
          · have := List.getElem?_eq_none_iff.1 hki; have := HM.out; omega
          have HRO := hideL (HD.out.each o (List.mem_of_getElem? hki))
          obtain ⟨g, off, rfl, d0, d1, d2, d3, d4, d5, d6, d7⟩ := (HD.out.row.below HGL.out.bel).cells hki
          have HST : Hid (((D.map Rx.toRs).take (j + 1)).filter (fun r => !r.del) = ((D.map Rx.toRs).take j).filter (fun r => !r.del) ++ (if (!o.toRs.del) = true then [o.toRs] else [])) := filter_step _ (by simp [hki])
          clear hki
          obtain ⟨⟨kd, nm, eps, tgs, host, rus, route, del⟩, ea, ec, ta, tc, ra, rc⟩ := o
          dsimp only at d0 d1 d2 d3 d4 d5 d6 d7
          cases del
          · have HN1 : Hid ((os ++ [(⟨⟨kd, nm, eps, tgs, host, rus, route, false⟩, ea, ec, ta, tc, ra, rc⟩ : Rx)]).map Rx.toRs = (C.map Rx.toRs).filter (fun r => (firstsF (D.map Rx.toRs) r.key).isNone) ++ ((D.map Rx.toRs).take (j + 1)).filter (fun r => !r.del)) := by
              unfold Hid
              rw [HST.out, List.map_append, HOS.out]; simp
            have HGL3 := hideL (HGL.out.below (Gr.alloc wr (Obj.cells #[.int .i64 kd, .string nm, .slice ea eps.length ec, .slice ta tgs.length tc, .string host, .slice ra rus.length rc, .string route, .bool false] 52)).below)
            have HOD : Hid (((wr.alloc (Obj.cells #[.int .i64 kd, .string nm, .slice ea eps.length ec, .slice ta tgs.length tc, .string host, .slice ra rus.length rc, .string route, .bool false] 52)).alloc (Obj.cells #[.int .i64 kd, .string nm, .slice ea eps.length ec, .slice ta tgs.length tc, .string host, .slice ra rus.length rc, .string route, .bool false] 52)).ownsRow w.heap.size 52 8 (.slice va os.length vc) os.length (rowsOf Rx.row os)) := HGL3.out.row.alloc _
            have HND : Hid (∀ j u, (⟨⟨kd, nm, eps, tgs, host, rus, route, false⟩, ea, ec, ta, tc, ra, rc⟩ : Rx).row[j]? = some u → ((wr.alloc (Obj.cells #[.int .i64 kd, .string nm, .slice ea eps.length ec, .slice ta tgs.length tc, .string host, .slice ra rus.length rc, .string route, .bool false] 52)).alloc (Obj.cells #[.int .i64 kd, .string nm, .slice ea eps.length ec, .slice ta tgs.length tc, .string host, .slice ra rus.length rc, .string route, .bool false] 52)).cell? ((⟨wr.heap.size + 1, 0, none⟩ : Addr).add j) = some u) := World.news_of_block (w := ((wr.alloc _).alloc _)) (blk2 wr _ _)
            have hszD : w.heap.size ≤ ((wr.alloc (Obj.cells #[.int .i64 kd, .string nm, .slice ea eps.length ec, .slice ta tgs.length tc, .string host, .slice ra rus.length rc, .string route, .bool false] 52)).alloc (Obj.cells #[.int .i64 kd, .string nm, .slice ea eps.length ec, .slice ta tgs.length tc, .string host, .slice ra rus.length rc, .string route, .bool false] 52)).heap.size := Nat.le_trans HGL3.out.bel.size (by simp)
            have hlm : os.length + 1 ≤ maxLen := by unfold maxLen; omega
            have hlb : (os.length + 1) * 136 ≤ 140737488355328 := by omega
            go_wp2_with (at_builtin; refine wpList_append_at _ rfl (.tmp 44) (.tmp 46) 22 rfl w.heap.size 52 i52 _ 8 136 Try.underlying22 hi52 hx0 hx1 hx2 rfl (by decide) (.slice va os.length vc) os.length (rowsOf Rx.row os) rfl HOD.out ⟨wr.heap.size + 1, 0, none⟩ 1 1 (⟨⟨kd, nm, eps, tgs, host, rus, route, false⟩, ea, ec, ta, tc, ra, rc⟩ : Rx).row rfl rfl HND.out (rx_one _) hlm hlb hszD ?_; intro v7 w7 hown7 hgrow7 hat7; have HG7 := hideL (HGL3.out.more (mm := 0) (p := (⟨⟨kd, nm, eps, tgs, host, rus, route, false⟩, ea, ec, ta, tc, ra, rc⟩ : Rx)) hown7 hgrow7 HRO.out); clear hown7 hgrow7 hat7)
            go_roundw
            case rel => exact ⟨j + 1, os ++ [(⟨⟨kd, nm, eps, tgs, host, rus, route, false⟩, ea, ec, ta, tc, ra, rc⟩ : Rx)], by go_num, by omega, HG7.out, HN1.out, by simp; omega⟩
            case measure => simp [intOf]; omega
          · have HN1 : Hid (os.map Rx.toRs = (C.map Rx.toRs).filter (fun r => (firstsF (D.map Rx.toRs) r.key).isNone) ++ ((D.map Rx.toRs).take (j + 1)).filter (fun r => !r.del)) := by
              unfold Hid
              rw [HST.out, HOS.out]; simp
            obtain ⟨w3, hw3⟩ : ∃ X, wr.alloc (.cells #[.int .i64 kd, .string nm, .slice ea eps.length ec, .slice ta tgs.length tc, .string host, .slice ra rus.length rc, .string route, .bool true] 52) = X := ⟨_, rfl⟩
            have HG3 : Hid (Gr wr w3) := by rw [← hw3]; exact Gr.alloc _ _
            have HX3 : Hid (w3.heap[wr.heap.size]? = some (boxO (⟨⟨kd, nm, eps, tgs, host, rus, route, true⟩, ea, ec, ta, tc, ra, rc⟩ : Rx))) := by rw [← hw3]; exact heap_alloc_new wr _
            have HGL3 := hideL (HGL.out.below HG3.out.below)
            obtain ⟨e0, e1, e2, e3, e4, e5, e6, e7⟩ := box8 HX3.out
            dsimp only at e0 e1 e2 e3 e4 e5 e6 e7
            go_wp2_with fail
            go_roundw
            case rel => exact ⟨j + 1, os, by go_num, by omega, HGL3.out, HN1.out, by omega⟩
            case measure => simp [intOf]; omega
        · have h4' : ¬ (j : Int) < m := by omega
          obtain rfl : j = m := by omega
          go_wp2
          go_ret
          refine ⟨_, rfl, os, HGL.out, ?_⟩
          rw [HOS.out, List.take_of_length_le (by simp; have := HM.out; omega)]
          rfl
end Go.Proofs.Ytmljljpldljpjaa

/-
  Nothing sorted.
-/
namespace Go.Proofs.Ytmljljpldljpjaa
open Go.RowKit
theorem sort_none (W : World) (B blk : Nat) : Calls Try.prog 44 #[.slice (some ⟨blk, 0, none⟩) 0 0, .func (.func 45) #[] #[.pointer (some ⟨B, 0, none⟩)]] W fun e w' => e = .returned (.tuple #[]) ∧ w' = W :=
  AnyF.slices_SortFunc_none { Try.laysSlF6_f44 with } (some ⟨blk, 0, none⟩) 0 (.func (.func 45) #[] #[.pointer (some ⟨B, 0, none⟩)]) W
end Go.Proofs.Ytmljljpldljpjaa

/-
  Merge.
-/
namespace Go.Proofs.Ytmljljpldljpjaa
open Go.RowKit
set_option linter.unusedVariables false
set_option linter.unusedSimpArgs false
set_option maxRecDepth 100000
theorem wrongF_ne {C D : List Rs} {i : Nat} {x : Int} (h : wrongF C D = some (i, x)) : x ≠ 0 := by
  unfold wrongF at h
  split at h
  · rename_i j hj
    have hp := List.find?_some hj
    simp only [Option.some.injEq, Prod.mk.injEq] at h
    obtain ⟨rfl, hx⟩ := h
    rcases hD : D[j]? with _ | r
    · rw [hD] at hp; cases hp
    · rw [hD] at hp hx
      dsimp only at hp hx
      rw [← hx]
      exact of_decide_eq_true hp
  · cases h
/-- what Merge refuses, and why -/
def mrF (C D : List Rs) : Option (Int × Int) := if astF C ≠ C.length then some (0, 2) else match wrongF C D with | some (i, x) => some ((i : Int), x) | none => if 64 < (mergL C D).length then some (0, 124) else none
/-- what Merge leaves -/
def MergE (w : World) (C D : List Rs) (e : Ending) (w' : World) : Prop := Below w.heap.size w w' ∧ ((∃ a x, mrF C D = some (a, x) ∧ e = .returned (.tuple #[.slice none 0 0, .int .i64 a, .int .i64 x])) ∨
  (mrF C D = none ∧ ∃ a c qs, e = .returned (.tuple #[.slice a (qs.length : Nat) c, .int .i64 0, .int .i64 0]) ∧ Ol w' w.heap.size (.slice a qs.length c) qs ∧ SortP (mergL C D) (qs.map Rx.toRs)))
theorem mergL_len (C D : List Rs) : (mergL C D).length ≤ C.length + D.length := by
  unfold mergL
  rw [List.length_append]
  have := List.length_filter_le (fun r => (firstsF D r.key).isNone) C
  have := List.length_filter_le (fun r : Rs => !r.del) D
  omega
set_option maxHeartbeats 16000000 in
theorem merge_any (w : World) (a b : Option Addr) (n m c1 c2 : Nat) (C D : List Rx) (hC : Lr w a C) (hD : Lr w b D) (hn : C.length = n) (hm : D.length = m) (hs : n ≤ 1048576) (hs2 : m ≤ 1048576) :
    Calls Try.prog 10 #[.slice a n c1, .slice b m c2] w fun e w' => MergE w (C.map Rx.toRs) (D.map Rx.toRs) e w' := by
  have HC := hideL hC
  have HD := hideL hD
  have HN := hideL hn
  have HM := hideL hm
  clear hC hD hn hm
  have HO := hideL (ordered_any w a n c1 C HC.out HN.out (by omega))
  have hCl : (C.map Rx.toRs).length = n := by simp [HN.out]
  have HCL := hideL hCl
  clear hCl
  go_enter Try.func10, Try.ntmps10
  go_wp2_with fail
  refine HO.out.mono ?_
  rintro e w1 ⟨rfl, hg1⟩
  have HG1 := hideL hg1
  clear hg1 HO
  by_cases ho : astF (C.map Rx.toRs) = n
  · rw [decide_eq_true ho]
    have HOR := hideL ho
    clear ho
    go_wp2_with fail
    refine (firsts_any w1 a n c1 C (HC.out.below HG1.out.below) HN.out (by omega)).mono ?_
    rintro e w2 ⟨rfl, hm2, hb2⟩
    have HB2 := hideL (HG1.out.below.trans (hb2.mono HG1.out.below.size))
    have HW := hideL (wrong_any w2 b m c2 D (C.map Rx.toRs) w1.heap.size n (HD.out.below HB2.out) HM.out hs2 hm2)
    clear hm2 hb2
    go_wp2_with fail
    refine HW.out.mono ?_
    rintro e w3 ⟨rfl, hb3⟩
    have HB3 := hideL (HB2.out.trans (hb3.mono HB2.out.size))
    clear hb3 HW
    rcases hwr : wrongF (C.map Rx.toRs) (D.map Rx.toRs) with _ | ⟨i, x⟩
    · have HMR : Hid (mrF (C.map Rx.toRs) (D.map Rx.toRs) = if 64 < (mergL (C.map Rx.toRs) (D.map Rx.toRs)).length then some (0, 124) else none) := by
        unfold Hid mrF
        rw [if_neg (by rw [HOR.out, HCL.out]; simp), hwr]
      have HA : Hid (Calls Try.prog 26 #[.slice a n c1, .slice b m c2] w3 fun e w' => ∃ v os, e = .returned v ∧ Gl w3 w' v os ∧ os.map Rx.toRs = mergL (C.map Rx.toRs) (D.map Rx.toRs)) := merged_any w3 a b n m c1 c2 C D (HC.out.below HB3.out) (HD.out.below HB3.out) HN.out HM.out hs hs2
      unfold wrA wrE
      dsimp only
      clear hwr
      go_wp2_with fail
      refine HA.out.mono ?_
      rintro e w4 ⟨v4, os, rfl, hgl, hos⟩
      obtain ⟨va, vc, rfl, _, hvc, hvm⟩ := own_form hgl.row
      have HL4 := hideL hgl.lr
      have HOS := hideL hos
      have hol : os.length = (mergL (C.map Rx.toRs) (D.map Rx.toRs)).length := by rw [← hos, List.length_map]
      have hle := mergL_len (C.map Rx.toRs) (D.map Rx.toRs)
      have hsz : os.length ≤ 2097152 := by rw [hol]; simp only [List.length_map] at hle; have := HN.out; have := HM.out; omega
      have HB4 := hideL (HB3.out.trans (hgl.bel.mono HB3.out.size))
      have HOL := hideL hol
      clear hgl hos hol hle HA
      by_cases h64 : 64 < os.length
      · have HR : Hid (mrF (C.map Rx.toRs) (D.map Rx.toRs) = some (0, 124)) := by unfold Hid; rw [HMR.out, if_pos (by rw [← HOL.out]; exact h64)]
        have h64' : (64 : Int) < os.length := by omega
        go_wp2
        go_ret3
        exact ⟨HB4.out, .inl ⟨0, 124, HR.out, rfl⟩⟩
      · have HR : Hid (mrF (C.map Rx.toRs) (D.map Rx.toRs) = none) := by unfold Hid; rw [HMR.out, if_neg (by rw [← HOL.out]; exact h64)]
        have h64' : ¬ (64 : Int) < os.length := by omega
        go_wp2_with fail
        refine (sorted_any sort_none w4 va os.length vc os HL4.out rfl (by omega)).mono ?_
        rintro e w5 ⟨v5, qs, rfl, hol5, hso, hb5⟩
        obtain ⟨a5, c5, rfl, _⟩ := own_form hol5.row
        have HO5 := hideL (hol5.low HB4.out.size)
        have HS5 := hideL hso
        have HB5 := hideL (HB4.out.trans (hb5.mono HB4.out.size))
        clear hol5 hso hb5
        go_wp2
        go_ret3
        exact ⟨HB5.out, .inr ⟨HR.out, a5, c5, qs, rfl, HO5.out, by rw [← HOS.out]; exact HS5.out⟩⟩
    · have hne := wrongF_ne hwr
      have HMR : Hid (mrF (C.map Rx.toRs) (D.map Rx.toRs) = some ((i : Int), x)) := by
        unfold Hid mrF
        rw [if_neg (by rw [HOR.out, HCL.out]; simp), hwr]
      have hne' : (x != 0) = true := by simpa using hne
      have HNE := hideL hne
      unfold wrA wrE
      dsimp only
      clear hwr hne
      go_wp2
      go_ret3
      exact ⟨HB3.out, .inl ⟨i, x, HMR.out, rfl⟩⟩
  · rw [decide_eq_false ho]
    have HMR : Hid (mrF (C.map Rx.toRs) (D.map Rx.toRs) = some (0, 2)) := by
      unfold Hid mrF
      rw [if_pos (by rw [HCL.out]; exact ho)]
    clear ho
    go_wp2
    go_ret3
    exact ⟨HG1.out.below, .inl ⟨0, 2, HMR.out, rfl⟩⟩
end Go.Proofs.Ytmljljpldljpjaa

/-
  Plain facts of the document's Merge.
-/
namespace Go.Proofs.Ytmljljpldljpjaa
open Go.RowKit
set_option linter.unusedVariables false
set_option linter.unusedSimpArgs false
set_option maxRecDepth 100000
theorem takeF {D : List Rs} {i : Nat} {r : Rs} (h : D[i]? = some r) : firstsF (D.take i) r.key = none ↔ firstsF D r.key = some i := by
  constructor
  · intro hn
    rw [firstsF_none_iff] at hn
    refine firstsF_at (fun j x hj hx e => ?_) h rfl
    have : x ∈ D.take i := by
      apply List.mem_of_getElem? (i := j)
      rw [List.getElem?_take_of_lt hj]; exact hx
    exact hn x this e
  · intro hf
    rw [firstsF_none_iff]
    intro x hx e
    obtain ⟨j, hj⟩ := List.getElem?_of_mem hx
    have hji : j < i := by have := (List.getElem?_eq_some_iff.1 hj).1; simp at this; omega
    rw [List.getElem?_take_of_lt hji] at hj
    unfold firstsF at hf
    obtain ⟨_, _, h3⟩ := List.findIdx?_eq_some_iff_getElem.1 hf
    have := h3 j hji
    have e2 := (List.getElem?_eq_some_iff.1 hj).2
    rw [e2] at this
    simp [e] at this
theorem err0 {C D : List Rs} {j : Nat} {x : Rs} (h : errF C D j x = 0) : firstsF D x.key = some j := by
  unfold errF at h
  split at h
  · cases h
  · split at h
    · cases h
    · rename_i h2; simpa using h2
theorem allI_of {C D : List Rs} (hC : KS C) {i : Nat} (hi : i ≤ D.length) (h : ∀ (j : Nat) (x : Rs), j < i → D[j]? = some x → errF C D j x = 0) : AllI C D i := by
  induction i with
  | zero => exact AllI.zero hC
  | succ i ih =>
    have hd : D[i]? = some D[i] := List.getElem?_eq_getElem _
    exact (ih (by omega) (fun j x hj hx => h j x (by omega) hx)).step hd (err0 (h i _ (by omega) hd))
theorem merg_perm {C D : List Rs} (hC : Ordd C) (h : ∀ (j : Nat) (x : Rs), D[j]? = some x → errF C D j x = 0) : (allM C D D.length).Perm (mergL C D) ∧ ((mergL C D).map Rs.key).Nodup ∧ KS (allM C D D.length) := by
  have hA := allI_of hC.ks (Nat.le_refl _) (fun j x _ hx => h j x hx)
  have hCn : (C.map Rs.key).Nodup := by
    rw [List.Nodup, List.pairwise_map]
    exact hC.ks.imp fun {a b} hab e => by rw [e] at hab; exact klt_irrefl _ hab
  have hDn : (D.map Rs.key).Nodup := by
    rw [List.Nodup, List.pairwise_map, List.pairwise_iff_getElem]
    intro i j hi hj hij e
    have h1 := err0 (h i _ (List.getElem?_eq_getElem hi))
    have h2 := err0 (h j _ (List.getElem?_eq_getElem hj))
    rw [e, h2] at h1
    cases h1; omega
  have hk : ((mergL C D).map Rs.key).Nodup := by
    unfold mergL
    rw [List.map_append, List.nodup_append]
    refine ⟨hCn.sublist (List.filter_sublist.map _), hDn.sublist (List.filter_sublist.map _), fun a ha b hb e => ?_⟩
    obtain ⟨x, hx, rfl⟩ := List.mem_map.1 ha
    obtain ⟨y, hy, rfl⟩ := List.mem_map.1 hb
    have h1 := (List.mem_filter.1 hx).2
    have h2 := (List.mem_filter.1 hy).1
    rw [Option.isNone_iff_eq_none, firstsF_none_iff] at h1
    exact h1 y h2 e.symm
  have hmn : (mergL C D).Nodup := by
    rw [List.Nodup, List.pairwise_map] at hk
    exact hk.imp fun {a b} hab e => hab (by rw [e])
  have han : (allM C D D.length).Nodup := hA.ks.imp fun {a b} hab e => by rw [e] at hab; exact klt_irrefl _ hab
  refine ⟨(List.perm_ext_iff_of_nodup han hmn).2 fun x => ?_, hk, hA.ks⟩
  rw [hA.mem, List.take_length]
  unfold mergL
  rw [List.mem_append, List.mem_filter, List.mem_filter, Option.isNone_iff_eq_none, firstsF_none_iff]
  simp
theorem dropX_says {os : List Rx} {j : Nat} {k : Int × ByteArray} (h : firstsF (os.map Rx.toRs) k = some j) : (os.take j ++ os.drop (j + 1)).map Rx.toRs = dropK (os.map Rx.toRs) k := by
  unfold dropK; rw [h]; simp [List.map_take, List.map_drop]
theorem dropX_none {os : List Rx} {k : Int × ByteArray} (h : firstsF (os.map Rx.toRs) k = none) : os.map Rx.toRs = dropK (os.map Rx.toRs) k := by
  unfold dropK; rw [h]
/-- what the document's Merge leaves -/
def RmE (w : World) (C D : List Rs) (e : Ending) (w' : World) : Prop := Below w.heap.size w w' ∧ ((∃ a x, mrF C D = some (a, x) ∧ e = .returned (.tuple #[.slice none 0 0, .int .i64 a, .int .i64 x])) ∨
  (mrF C D = none ∧ ∃ a c qs, e = .returned (.tuple #[.slice a (qs.length : Nat) c, .int .i64 0, .int .i64 0]) ∧ Lr w' a qs ∧ qs.map Rx.toRs = allM C D D.length))
end Go.Proofs.Ytmljljpldljpjaa

/-
  What Merge answers and what the document's answers is the same: plain.
-/
namespace Go.Proofs.Ytmljljpldljpjaa
open Go.RowKit
set_option linter.unusedVariables false
set_option linter.unusedSimpArgs false
theorem wrongF_zero {C D : List Rs} (h : wrongF C D = none) : ∀ (j : Nat) (x : Rs), D[j]? = some x → errF C D j x = 0 := by
  intro j x hj
  have hjl := (List.getElem?_eq_some_iff.1 hj).1
  unfold wrongF at h
  split at h
  · cases h
  · rename_i hf
    have := List.find?_eq_none.1 hf j (by simpa using hjl)
    rw [hj] at this
    simpa using this
theorem mrF_none {C D : List Rs} (h : mrF C D = none) : Ordd C ∧ (∀ (j : Nat) (x : Rs), D[j]? = some x → errF C D j x = 0) ∧ (mergL C D).length ≤ 64 := by
  unfold mrF at h
  split at h
  · cases h
  · rename_i ho
    have ho' : astF C = C.length := Classical.not_not.1 ho
    rcases hw : wrongF C D with _ | ⟨i, x⟩
    · rw [hw] at h
      dsimp only at h
      split at h
      · cases h
      · exact ⟨astF_ord ho', wrongF_zero hw, by omega⟩
    · rw [hw] at h; cases h
theorem merg_one {C D M : List Rs} (h : mrF C D = none) (hs : SortP (mergL C D) M) : M = allM C D D.length := by
  obtain ⟨h1, h2, _⟩ := mrF_none h
  obtain ⟨hp, hk, hks⟩ := merg_perm h1 h2
  obtain ⟨a, b⟩ := hs.spec hk
  exact KS.ext a hks fun r => (b r).trans hp.mem_iff.symm
end Go.Proofs.Ytmljljpldljpjaa

/-
  What makes one configuration another, merged into the one, makes the other: plain.
-/
namespace Go.Proofs.Ytmljljpldljpjaa
open Go.RowKit
set_option linter.unusedVariables false
set_option linter.unusedSimpArgs false
theorem kx_ext : ∀ {l m : List (Int × ByteArray)}, l.Pairwise klt → m.Pairwise klt → (∀ r, r ∈ l ↔ r ∈ m) → l = m
  | [], [], _, _, _ => rfl
  | [], b :: m, _, _, h => by have := (h b).2 (by simp); simp at this
  | a :: l, [], _, _, h => by have := (h a).1 (by simp); simp at this
  | a :: l, b :: m, hl, hm, h => by
    obtain ⟨hl1, hl2⟩ := List.pairwise_cons.1 hl
    obtain ⟨hm1, hm2⟩ := List.pairwise_cons.1 hm
    have hab : a = b := by
      rcases List.mem_cons.1 ((h a).1 (by simp)) with e | e
      · exact e
      · rcases List.mem_cons.1 ((h b).2 (by simp)) with e' | e'
        · exact e'.symm
        · exact absurd (hm1 a e) (klt_asymm (hl1 b e'))
    subst hab
    congr 1
    refine kx_ext hl2 hm2 (fun r => ⟨fun hr => ?_, fun hr => ?_⟩)
    · rcases List.mem_cons.1 ((h r).1 (by simp [hr])) with e | e
      · subst e; exact absurd (hl1 r hr) (klt_irrefl _)
      · exact e
    · rcases List.mem_cons.1 ((h r).2 (by simp [hr])) with e | e
      · subst e; exact absurd (hm1 r hr) (klt_irrefl _)
      · exact e
theorem KS.keys {l : List Rs} (h : KS l) : (l.map Rs.key).Pairwise klt := List.pairwise_map.2 h
theorem ks_first {l : List Rs} (h : KS l) {j : Nat} {r : Rs} (hj : l[j]? = some r) : firstsF l r.key = some j := by
  refine firstsF_at (fun i x hi hx e => ?_) hj rfl
  have hi' := (List.getElem?_eq_some_iff.1 hx)
  have hj' := (List.getElem?_eq_some_iff.1 hj)
  obtain ⟨h1, e1⟩ := hi'
  obtain ⟨h2, e2⟩ := hj'
  have := (List.pairwise_iff_getElem.1 h) i j h1 h2 hi
  rw [e1, e2, e] at this
  exact klt_irrefl _ this
theorem firstsF_some_mem {l : List Rs} {r : Rs} (h : r ∈ l) : ∃ j, firstsF l r.key = some j := by
  rcases hf : firstsF l r.key with _ | j
  · exact absurd rfl (firstsF_none_iff.1 hf r h)
  · exact ⟨j, rfl⟩
def diffL (sb : Rs → Rs → Bool) (F T : List Rs) : List Rs := foldP (delsL F T F.length ++ newsL sb F T T.length)
theorem diffL_KS (sb : Rs → Rs → Bool) (F T : List Rs) : KS (diffL sb F T) := (foldP_spec (diff_nodup sb F T _ _)).1
theorem diffL_mem {sb : Rs → Rs → Bool} {F T : List Rs} (hF : KS F) (hT : KS T) {x : Rs} :
    x ∈ diffL sb F T ↔ (∃ r ∈ F, (∀ t ∈ T, t.key ≠ r.key) ∧ x = delR r) ∨ (x ∈ T ∧ ∀ q ∈ F, q.key = x.key → sb q x = false) := by
  unfold diffL
  rw [(foldP_spec (diff_nodup sb F T _ _)).2, List.mem_append]
  constructor
  · rintro (h | h)
    · obtain ⟨j, r, _, hr, _, hn, rfl⟩ := delsL_spec h
      exact .inl ⟨r, List.mem_of_getElem? hr, firstsF_none_iff.1 hn, rfl⟩
    · refine .inr ?_
      unfold newsL at h
      obtain ⟨j, hj, hx⟩ := List.mem_filterMap.1 h
      rcases hTj : T[j]? with _ | r
      · rw [hTj] at hx; cases hx
      · rw [hTj] at hx
        dsimp only at hx
        by_cases hg : newB sb F T j r = true
        · rw [if_pos hg] at hx
          cases hx
          refine ⟨List.mem_of_getElem? hTj, fun q hq e => ?_⟩
          unfold newB at hg
          rw [Bool.and_eq_true] at hg
          have h2 := hg.2
          obtain ⟨i, hi⟩ := List.getElem?_of_mem hq
          have hfi := ks_first hF hi
          rw [e] at hfi
          rw [hfi] at h2
          dsimp only at h2
          rw [hi] at h2
          simpa using h2
        · rw [if_neg hg] at hx; cases hx
  · rintro (⟨r, hr, hn, rfl⟩ | ⟨hx, hq⟩)
    · refine .inl ?_
      obtain ⟨i, hi⟩ := List.getElem?_of_mem hr
      unfold delsL
      refine List.mem_filterMap.2 ⟨i, by simpa using (List.getElem?_eq_some_iff.1 hi).1, ?_⟩
      rw [hi]
      dsimp only
      rw [if_pos]
      unfold goneB
      rw [ks_first hF hi, firstsF_none_iff.2 hn]; simp
    · refine .inr ?_
      obtain ⟨i, hi⟩ := List.getElem?_of_mem hx
      unfold newsL
      refine List.mem_filterMap.2 ⟨i, by simpa using (List.getElem?_eq_some_iff.1 hi).1, ?_⟩
      rw [hi]
      dsimp only
      rw [if_pos]
      unfold newB
      rw [ks_first hT hi]
      rcases hf : firstsF F x.key with _ | j
      · simp
      · obtain ⟨q, hqj, hqk⟩ := firstsF_get hf
        simp [hqj, hq q (List.mem_of_getElem? hqj) hqk]
/-- no document of it is wrong -/
theorem back_err {sb : Rs → Rs → Bool} {F T : List Rs} (hF : Ordd F) (hT : Ordd T) : ∀ (j : Nat) (x : Rs), (diffL sb F T)[j]? = some x → errF F (diffL sb F T) j x = 0 := by
  intro j x hj
  have hx := (diffL_mem hF.ks hT.ks).1 (List.mem_of_getElem? hj)
  have hk : 1 ≤ x.kd ∧ x.kd ≤ 4 := by
    rcases hx with ⟨r, hr, _, rfl⟩ | ⟨hx, _⟩
    · exact ⟨(hF.kind r hr).1, (hF.kind r hr).2.1⟩
    · exact ⟨(hT.kind x hx).1, (hT.kind x hx).2.1⟩
  unfold errF
  rw [if_neg (by omega), if_neg (by rw [ks_first (diffL_KS sb F T) hj]; simp), if_neg]
  rintro ⟨hd, hn⟩
  rcases hx with ⟨r, hr, _, rfl⟩ | ⟨hx, _⟩
  · exact firstsF_none_iff.1 hn r hr rfl
  · rw [(hT.kind x hx).2.2] at hd; cases hd
structure BackI (sb : Rs → Rs → Bool) (F T M : List Rs) : Prop where
  ks : KS M
  keys : M.map Rs.key = T.map Rs.key
  same : ∀ x ∈ M, ∀ t ∈ T, x.key = t.key → sb x t = true
theorem back_spec {sb : Rs → Rs → Bool} (hr : ∀ a, sb a a = true) {F T : List Rs} (hF : Ordd F) (hT : Ordd T) : BackI sb F T (allM F (diffL sb F T) (diffL sb F T).length) := by
  have hE := back_err (sb := sb) hF hT
  have hA := allI_of hF.ks (Nat.le_refl _) (fun j x _ hx => hE j x hx)
  have hmem : ∀ x, x ∈ allM F (diffL sb F T) (diffL sb F T).length ↔ (x ∈ F ∧ ∀ d ∈ diffL sb F T, d.key ≠ x.key) ∨ (x ∈ diffL sb F T ∧ x.del = false) := fun x => by
    rw [hA.mem, List.take_length]
  have h1 : ∀ x ∈ allM F (diffL sb F T) (diffL sb F T).length, ∃ t ∈ T, t.key = x.key ∧ sb x t = true := by
    intro x hx
    rcases (hmem x).1 hx with ⟨hxF, hd⟩ | ⟨hxD, hdel⟩
    · by_cases hex : ∃ t ∈ T, t.key = x.key
      · obtain ⟨t, ht, hk⟩ := hex
        refine ⟨t, ht, hk, ?_⟩
        cases hs : sb x t
        · exfalso
          refine hd t ((diffL_mem hF.ks hT.ks).2 (.inr ⟨ht, fun q hq e => ?_⟩)) hk
          obtain rfl := hF.ks.one hq hxF (e.trans hk)
          exact hs
        · rfl
      · exfalso
        exact hd (delR x) ((diffL_mem hF.ks hT.ks).2 (.inl ⟨x, hxF, fun t ht e => hex ⟨t, ht, e⟩, rfl⟩)) rfl
    · rcases (diffL_mem hF.ks hT.ks).1 hxD with ⟨r, _, _, rfl⟩ | ⟨hxT, _⟩
      · cases hdel
      · exact ⟨x, hxT, rfl, hr x⟩
  have h2 : ∀ t ∈ T, ∃ x ∈ allM F (diffL sb F T) (diffL sb F T).length, x.key = t.key := by
    intro t ht
    by_cases hD : t ∈ diffL sb F T
    · exact ⟨t, (hmem t).2 (.inr ⟨hD, (hT.kind t ht).2.2⟩), rfl⟩
    · have : ∃ q ∈ F, q.key = t.key := by
        refine Classical.byContradiction fun hn => hD ((diffL_mem hF.ks hT.ks).2 (.inr ⟨ht, fun q hq e => absurd ⟨q, hq, e⟩ hn⟩))
      obtain ⟨q, hq, hk⟩ := this
      refine ⟨q, (hmem q).2 (.inl ⟨hq, fun d hd e => ?_⟩), hk⟩
      rcases (diffL_mem hF.ks hT.ks).1 hd with ⟨r, _, hn, rfl⟩ | ⟨hdT, _⟩
      · exact hn t ht (hk.symm.trans e.symm)
      · have := hT.ks.one hdT ht (e.trans hk)
        rw [this] at hd
        exact hD hd
  refine ⟨hA.ks, kx_ext hA.ks.keys hT.ks.keys fun k => ?_, fun x hx t ht e => ?_⟩
  · constructor
    · intro hk
      obtain ⟨x, hx, rfl⟩ := List.mem_map.1 hk
      obtain ⟨t, ht, e, _⟩ := h1 x hx
      exact List.mem_map.2 ⟨t, ht, e⟩
    · intro hk
      obtain ⟨t, ht, rfl⟩ := List.mem_map.1 hk
      obtain ⟨x, hx, e⟩ := h2 t ht
      exact List.mem_map.2 ⟨x, hx, e⟩
  · obtain ⟨t', ht', e', hs⟩ := h1 x hx
    obtain rfl := hT.ks.one ht' ht (e'.trans e)
    exact hs
theorem back_none {sb : Rs → Rs → Bool} (hr : ∀ a, sb a a = true) {F T : List Rs} (hF : Ordd F) (hT : Ordd T) (h0 : astF F = F.length) (hl : T.length ≤ 64) : mrF F (diffL sb F T) = none := by
  have hE := back_err (sb := sb) hF hT
  unfold mrF
  rw [if_neg (fun h => h h0), wrongF_none hE]
  dsimp only
  rw [if_neg]
  have h1 := (merg_perm hF hE).1.length_eq
  have h2 := congrArg List.length (back_spec hr hF hT).keys
  rw [List.length_map, List.length_map] at h2
  omega
/-- what makes one list one of the same keys and the same resources is nothing -/
theorem diffL_nil {sb : Rs → Rs → Bool} {F T : List Rs} (hF : KS F) (hT : KS T) (hk : ∀ k, k ∈ F.map Rs.key ↔ k ∈ T.map Rs.key) (hs : ∀ q ∈ F, ∀ x ∈ T, q.key = x.key → sb q x = true) : diffL sb F T = [] := by
  rw [List.eq_nil_iff_forall_not_mem]
  intro x hx
  rcases (diffL_mem hF hT).1 hx with ⟨r, hr, hn, _⟩ | ⟨hxT, hq⟩
  · obtain ⟨t, ht, e⟩ := List.mem_map.1 ((hk r.key).1 (List.mem_map_of_mem hr))
    exact hn t ht e
  · obtain ⟨q, hqF, e⟩ := List.mem_map.1 ((hk x.key).2 (List.mem_map_of_mem hxT))
    have h1 := hq q hqF e
    rw [hs q hqF x hxT e] at h1
    cases h1
end Go.Proofs.Ytmljljpldljpjaa
