import Derived.Test.YtmljljpldljpjaaAs
import Derived.Test.YtmljljpldljpjaaDf
import Derived.Test.YtmljljpldljpjaaShs
import Derived.Shelf.SlSortCmp.NoneTotal
import Derived.OwnWalk
import Derived.Test.YtmljljpldljpjaaOu
import Derived.Test.YtmljljpldljpjaaMa
import Derived.Test.YtmljljpldljpjaaRd
import Derived.Test.YtmljljpldljpjaaBndJ
/-
  wrong, merged.
-/
namespace Go.Proofs.Ytmljljpldljpjaa
open Go.RowKit
set_option linter.unusedVariables false
set_option linter.unusedSimpArgs false
set_option maxRecDepth 100000
def wrA (o : Option (Nat × Int)) : Int := match o with | some (i, _) => (i : Int) | none => 0
def wrE (o : Option (Nat × Int)) : Int := match o with | some (_, e) => e | none => 0
/-- what wrong tells -/
def WrE (w : World) (o : Option (Nat × Int)) (e : Ending) (w' : World) : Prop := e = .returned (.tuple #[.int .i64 (wrA o), .int .i64 (wrE o)]) ∧ Below w.heap.size w w'
set_option maxHeartbeats 32000000 in
theorem wrong_any (w : World) (b : Option Addr) (m c2 : Nat) (D : List Rx) (C : List Rs) (Mc N : Nat) (hD : Lr w b D) (hm : D.length = m) (hs : m ≤ 1048576) (hC : Mp w Mc N (firstsF C)) :
    Calls Try.prog 24 #[.slice b m c2, .map (some Mc)] w fun e w' => WrE w (wrongF C (D.map Rx.toRs)) e w' := by
  have HD := hideL hD
  have HM := hideL hm
  have HC := hideL hC
  clear hD hm hC
  have HST : Hid (∀ (i : Nat) (r : Rs), (∀ (j : Nat) (x : Rs), j < i → (D.map Rx.toRs)[j]? = some x → errF C (D.map Rx.toRs) j x = 0) → (D.map Rx.toRs)[i]? = some r → errF C (D.map Rx.toRs) i r ≠ 0 → wrongF C (D.map Rx.toRs) = some (i, errF C (D.map Rx.toRs) i r)) := fun i r h1 h2 h3 => wrongF_stop h1 h2 h3
  have HAL : Hid ((∀ (j : Nat) (x : Rs), (D.map Rx.toRs)[j]? = some x → errF C (D.map Rx.toRs) j x = 0) → wrongF C (D.map Rx.toRs) = none) := fun h => wrongF_none h
  generalize wrongF C (D.map Rx.toRs) = A at HST HAL ⊢
  go_enter Try.func24, Try.ntmps24
  go_wp2_with fail
  refine (firsts_any w b m c2 D HD.out HM.out (by omega)).mono ?_
  rintro e w1 ⟨rfl, hm1, hb1⟩
  have HM1 := hideL hm1
  have HC1 := hideL (HC.out.below hb1)
  have HB1 := hideL hb1
  clear hm1 hb1
  go_wp2_with fail
  go_loopw [16] (fun t wr => ∃ (i : Nat), t = .int .i64 i ∧ i ≤ m ∧ Below w.heap.size w wr ∧ Mp wr Mc N (firstsF C) ∧ Mp wr w.heap.size m (firstsF (D.map Rx.toRs)) ∧ Hid (∀ (j : Nat) (x : Rs), j < i → (D.map Rx.toRs)[j]? = some x → errF C (D.map Rx.toRs) j x = 0)) (fun t _ => m - (intOf t).toNat)
  case atStart => exact ⟨0, rfl, by omega, HB1.out, HC1.out, HM1.out, fun j x hj => by omega⟩
  case round =>
    clear HM1 HC1 HB1 HC
    obtain ⟨i, rfl, hi, hbel, hma, hmb, HF⟩ := hrel
    have i0 : (0 : Int) ≤ i := by omega
    have HB := hideL hbel
    have HMA := hideL hma
    have HMB := hideL hmb
    clear hbel hma hmb
    by_cases h3 : i < m
    · have h3' : (i : Int) < m := by omega
      rcases hki : D[i]? with _ | o
      · have := List.getElem?_eq_none_iff.1 hki; have := HM.out; omega
      have HRO := hideL (HD.out.each o (List.mem_of_getElem? hki))
      have HK := hideL HRO.out.ok.key
      obtain ⟨g, off, rfl, d0, d1, d2, d3, d4, d5, d6, d7⟩ := (HD.out.row.below HB.out).cells hki
      have HKI : Hid ((D.map Rx.toRs)[i]? = some o.toRs) := by unfold Hid; simp [hki]
      have HBAD : Hid (∀ v : Int, errF C (D.map Rx.toRs) i o.toRs = v → v ≠ 0 → A = some (i, v)) := fun v h h0 => by rw [← h]; exact HST.out i o.toRs HF.out HKI.out (by rw [h]; exact h0)
      have HGOOD : Hid (errF C (D.map Rx.toRs) i o.toRs = 0 → ∀ (j : Nat) (x : Rs), j < i + 1 → (D.map Rx.toRs)[j]? = some x → errF C (D.map Rx.toRs) j x = 0) := fun h j x hj hx => by
        by_cases hji : j < i
        · exact HF.out j x hji hx
        · obtain rfl : j = i := by omega
          rw [HKI.out] at hx; cases hx; exact h
      have HIK : Hid (∀ W, Calls Try.prog 43 #[.int .i64 o.kd] W fun e w' => e = .returned (.bool (kindB o.kd)) ∧ w' = W) := fun W => isKind_any o.kd W
      have HKB : Hid (kindB o.kd = false ↔ (o.kd < 1 ∨ 4 < o.kd)) := by unfold Hid kindB; simp; omega
      clear hki
      go_wp2_with fail
      refine (keyOf_any _ o).mono ?_
      rintro e w3 ⟨rfl, hg3⟩
      have HG3 := hideL ((Gr.alloc wr _).trans hg3)
      have HX3 := hideL (show w3.heap[wr.heap.size]? = some (boxO o) from hg3.below.cells (heap_alloc_new wr _))
      clear hg3 d0 d1 d2 d3 d4 d5 d6 d7
      obtain ⟨B, hB⟩ : ∃ B, wr.heap.size = B := ⟨_, rfl⟩
      rw [hB] at HX3 ⊢
      unfold keyV Rs.key
      dsimp only
      have HGA := hideL (Gr.alloc w3 (.cells #[.int .i64 o.kd, .string o.nm] 74 (0, 0)))
      obtain ⟨q0, q1⟩ := key_cells w3 o.kd o.nm
      obtain ⟨w4, hw4⟩ : ∃ X, w3.alloc (.cells #[.int .i64 o.kd, .string o.nm] 74 (0, 0)) = X := ⟨_, rfl⟩
      rw [hw4] at HGA q0 q1
      have HGW := hideL (HG3.out.trans HGA.out)
      have HB4 := hideL (HB.out.trans (HGW.out.below.mono HB.out.size))
      have HMA4 := hideL (HMA.out.below HGW.out.below)
      have HMB4 := hideL (HMB.out.below HGW.out.below)
      obtain ⟨e0, e1, e2, e3, e4, e5, e6, e7⟩ := box8 (HGA.out.below.cells HX3.out)
      clear HMA HMB HX3 HG3 HGA hB
      obtain ⟨t, q', ht, hti, _⟩ := firstsF_some HKI.out
      have hlt : (Instr.lookup 61 (.map (some w.heap.size)) (.agg #[.int .i64 o.kd, .string o.nm]) false).run Try.prog w4 = .ok (.int .i64 t) w4 := (HMB4.out.look HK.out false).1 t ht
      have hlc : ∃ (v : Int) (is : Bool), (Instr.lookup 61 (.map (some Mc)) (.agg #[.int .i64 o.kd, .string o.nm]) true).run Try.prog w4 = .ok (.tuple #[.int .i64 v, .bool is]) w4 ∧ (is = false ↔ firstsF C o.key = none) := by
        rcases lookC HMA4.out HK.out with ⟨f, hf⟩ | hf
        · exact ⟨f, true, (HMA4.out.look HK.out true).1 f hf, by simp [show firstsF C o.key = some f from hf]⟩
        · exact ⟨0, false, (HMA4.out.look HK.out true).2 hf, by simp [show firstsF C o.key = none from hf]⟩
      obtain ⟨v, is, hlk, his⟩ := hlc
      have HIS := hideL his
      have HTE := hideL ht
      clear his ht
      generalize kindB o.kd = kb at HIK HKB
      cases kb
      · have HR := hideL (HBAD.out 2 (by unfold errF; rw [if_pos (HKB.out.1 rfl)]) (by decide))
        go_wp2_with (go_at_call 43; refine (HIK.out _).mono ?_; rintro e w5 ⟨rfl, hw⟩; have hw := hw.symm; subst hw)
        go_ret2
        exact ⟨by rw [HR.out]; rfl, HB4.out⟩
      · have HNK : Hid (¬ (o.kd < 1 ∨ 4 < o.kd)) := fun h => by have := HKB.out.2 h; cases this
        by_cases hte : t = i
        · subst hte
          cases hdl : o.del
          · have HR := hideL (HGOOD.out (by unfold errF; rw [if_neg HNK.out, if_neg (by simp [HTE.out]), if_neg (by simp [hdl])]))
            rw [hdl] at e7
            go_wp2_with (go_at_call 43; refine (HIK.out _).mono ?_; rintro e w5 ⟨rfl, hw⟩; have hw := hw.symm; subst hw)
            go_roundw
            case rel => exact ⟨t + 1, by go_num, by omega, HB4.out, HMA4.out, HMB4.out, HR.out⟩
            case measure => simp [intOf]; omega
          · rw [hdl] at e7
            cases is
            · have HR := hideL (HBAD.out 290 (by unfold errF; rw [if_neg HNK.out, if_neg (by simp [HTE.out]), if_pos ⟨hdl, HIS.out.1 rfl⟩]) (by decide))
              go_wp2_with (go_at_call 43; refine (HIK.out _).mono ?_; rintro e w5 ⟨rfl, hw⟩; have hw := hw.symm; subst hw)
              go_ret2
              exact ⟨by rw [HR.out]; rfl, HB4.out⟩
            · have HR := hideL (HGOOD.out (by unfold errF; rw [if_neg HNK.out, if_neg (by simp [HTE.out]), if_neg (fun h => by have := HIS.out.2 h.2; cases this)]))
              go_wp2_with (go_at_call 43; refine (HIK.out _).mono ?_; rintro e w5 ⟨rfl, hw⟩; have hw := hw.symm; subst hw)
              go_roundw
              case rel => exact ⟨t + 1, by go_num, by omega, HB4.out, HMA4.out, HMB4.out, HR.out⟩
              case measure => simp [intOf]; omega
        · have HR := hideL (HBAD.out 91 (by unfold errF; rw [if_neg HNK.out, if_pos (by rw [HTE.out]; simpa using hte)]) (by decide))
          have hte3 : ((t : Int) != (i : Int)) = true := by simp; omega
          have hte4 : ¬ (t : Int) = i := by omega
          clear hte
          go_wp2_with (go_at_call 43; refine (HIK.out _).mono ?_; rintro e w5 ⟨rfl, hw⟩; have hw := hw.symm; subst hw)
          go_ret2
          exact ⟨by rw [HR.out]; rfl, HB4.out⟩
    · have h3' : ¬ (i : Int) < m := by omega
      have HR := hideL (HAL.out (fun j x hx => HF.out j x (by have := (List.getElem?_eq_some_iff.1 hx).1; simp at this; have := HM.out; omega) hx))
      go_wp2
      go_ret2
      exact ⟨by rw [HR.out]; rfl, HB.out⟩
end Go.Proofs.Ytmljljpldljpjaa

/-
  merged.
-/
namespace Go.Proofs.Ytmljljpldljpjaa
open Go.RowKit
set_option linter.unusedVariables false
set_option linter.unusedSimpArgs false
set_option maxRecDepth 100000
theorem filter_step {l : List Rs} {i : Nat} {r : Rs} (p : Rs → Bool) (h : l[i]? = some r) : (l.take (i + 1)).filter p = (l.take i).filter p ++ (if p r = true then [r] else []) := by
  rw [take_snoc h, List.filter_append]
  by_cases hp : p r = true <;> simp [hp]
set_option maxHeartbeats 32000000 in
theorem merged_any (w : World) (a b : Option Addr) (n m c1 c2 : Nat) (C D : List Rx) (hC : Lr w a C) (hD : Lr w b D) (hn : C.length = n) (hm : D.length = m) (hs : n ≤ 1048576) (hs2 : m ≤ 1048576) :
    Calls Try.prog 26 #[.slice a n c1, .slice b m c2] w fun e w' => ∃ v os, e = .returned v ∧ Gl w w' v os ∧ os.map Rx.toRs = mergL (C.map Rx.toRs) (D.map Rx.toRs) := by
  have HC := hideL hC
  have HD := hideL hD
  have HN := hideL hn
  have HM := hideL hm
  clear hC hD hn hm
  obtain ⟨i52, hi52, hx0, hx1, hx2⟩ := info_parts Try.info52
  go_enter Try.func26, Try.ntmps26
  go_wp2_with fail
  refine (firsts_any w b m c2 D HD.out HM.out (by omega)).mono ?_
  rintro e w1 ⟨rfl, hm1, hb1⟩
  have HM1 := hideL hm1
  have HB1 := hideL hb1
  clear hm1 hb1
  go_wp2_with fail
  go_loopw [6, 17] (fun v t wr => ∃ (i : Nat) (os : List Rx), t = .int .i64 i ∧ i ≤ n ∧ Gl w wr v os ∧ os.map Rx.toRs = ((C.map Rx.toRs).take i).filter (fun r => (firstsF (D.map Rx.toRs) r.key).isNone) ∧ Mp wr w.heap.size m (firstsF (D.map Rx.toRs))) (fun _ t _ => n - (intOf t).toNat)
  case atStart => exact ⟨0, [], rfl, by omega, Gl.nil w HB1.out, rfl, HM1.out⟩
  case round =>
    clear HM1 HB1
    obtain ⟨i, os, rfl, hi, hgl, hos, hma⟩ := hrel
    have i0 : (0 : Int) ≤ i := by omega
    have hol : os.length ≤ i := by
      have := congrArg List.length hos
      have h2 := List.length_filter_le (fun r => (firstsF (D.map Rx.toRs) r.key).isNone) ((C.map Rx.toRs).take i)
      simp at this h2; omega
    obtain ⟨va, vc, rfl, _, hvc, hvm⟩ := own_form hgl.row
    have HGL := hideL hgl
    have HOS := hideL hos
    have HMA := hideL hma
    clear hgl hos hma
    by_cases h3 : i < n
    · have h3' : (i : Int) < n := by omega
      rcases hki : C[i]? with _ | o
      · have := List.getElem?_eq_none_iff.1 hki; have := HN.out; omega
      have HRO := hideL (HC.out.each o (List.mem_of_getElem? hki))
      have HK := hideL HRO.out.ok.key
      obtain ⟨g, off, rfl, d0, d1, d2, d3, d4, d5, d6, d7⟩ := (HC.out.row.below HGL.out.bel).cells hki
      have HST : Hid (((C.map Rx.toRs).take (i + 1)).filter (fun r => (firstsF (D.map Rx.toRs) r.key).isNone) = ((C.map Rx.toRs).take i).filter (fun r => (firstsF (D.map Rx.toRs) r.key).isNone) ++ (if (firstsF (D.map Rx.toRs) o.toRs.key).isNone = true then [o.toRs] else [])) := filter_step _ (by simp [hki])
      clear hki
      go_wp2_with fail
      refine (keyOf_any _ o).mono ?_
      rintro e w3 ⟨rfl, hg3⟩
      have HG3 := hideL ((Gr.alloc wr _).trans hg3)
      have HX3 := hideL (show w3.heap[wr.heap.size]? = some (boxO o) from hg3.below.cells (heap_alloc_new wr _))
      clear hg3 d0 d1 d2 d3 d4 d5 d6 d7
      obtain ⟨B, hB⟩ : ∃ B, wr.heap.size = B := ⟨_, rfl⟩
      rw [hB] at HX3 ⊢
      clear hB
      unfold keyV Rs.key
      dsimp only
      have HGL3 := hideL (HGL.out.below HG3.out.below)
      have HMA3 := hideL (HMA.out.below HG3.out.below)
      obtain ⟨e0, e1, e2, e3, e4, e5, e6, e7⟩ := box8 HX3.out
      clear HGL HMA HG3
      rcases lookC HMA3.out HK.out with ⟨f, hf⟩ | hf
      · have hlk : (Instr.lookup 61 (.map (some w.heap.size)) (.agg #[.int .i64 o.kd, .string o.nm]) true).run Try.prog w3 = .ok (.tuple #[.int .i64 f, .bool true]) w3 := (HMA3.out.look HK.out true).1 f hf
        have HN1 : Hid (os.map Rx.toRs = ((C.map Rx.toRs).take (i + 1)).filter (fun r => (firstsF (D.map Rx.toRs) r.key).isNone)) := by
          unfold Hid
          rw [HST.out, HOS.out, show firstsF (D.map Rx.toRs) o.toRs.key = some f from hf]; simp
        clear hf
        go_wp2_with fail
        go_roundw
        case rel => exact ⟨i + 1, os, by go_num, by omega, HGL3.out, HN1.out, HMA3.out⟩
        case measure => simp [intOf]; omega
      · have hlk : (Instr.lookup 61 (.map (some w.heap.size)) (.agg #[.int .i64 o.kd, .string o.nm]) true).run Try.prog w3 = .ok (.tuple #[.int .i64 0, .bool false]) w3 := (HMA3.out.look HK.out true).2 hf
        have HN1 : Hid ((os ++ [o]).map Rx.toRs = ((C.map Rx.toRs).take (i + 1)).filter (fun r => (firstsF (D.map Rx.toRs) r.key).isNone)) := by
          unfold Hid
          rw [HST.out, List.map_append, HOS.out, show firstsF (D.map Rx.toRs) o.toRs.key = none from hf]; simp
        clear hf
        have HOD : Hid ((w3.alloc (Obj.cells #[.int .i64 o.kd, .string o.nm, .slice o.ea o.eps.length o.ec, .slice o.ta o.tgs.length o.tc, .string o.host, .slice o.ra o.rus.length o.rc, .string o.route, .bool o.del] 52)).ownsRow w.heap.size 52 8 (.slice va os.length vc) os.length (rowsOf Rx.row os)) := HGL3.out.row.alloc _
        have HND : Hid (∀ j u, o.row[j]? = some u → (w3.alloc (Obj.cells #[.int .i64 o.kd, .string o.nm, .slice o.ea o.eps.length o.ec, .slice o.ta o.tgs.length o.tc, .string o.host, .slice o.ra o.rus.length o.rc, .string o.route, .bool o.del] 52)).cell? ((⟨w3.heap.size, 0, none⟩ : Addr).add j) = some u) := World.news_of_block (w := (w3.alloc (Obj.cells #[.int .i64 o.kd, .string o.nm, .slice o.ea o.eps.length o.ec, .slice o.ta o.tgs.length o.tc, .string o.host, .slice o.ra o.rus.length o.rc, .string o.route, .bool o.del] 52))) (Go.heap_alloc_new w3 _)
        have hszD : w.heap.size ≤ (w3.alloc (Obj.cells #[.int .i64 o.kd, .string o.nm, .slice o.ea o.eps.length o.ec, .slice o.ta o.tgs.length o.tc, .string o.host, .slice o.ra o.rus.length o.rc, .string o.route, .bool o.del] 52)).heap.size := Nat.le_trans HGL3.out.bel.size (by simp)
        have hlm : os.length + 1 ≤ maxLen := by unfold maxLen; omega
        have hlb : (os.length + 1) * 136 ≤ 140737488355328 := by omega
        go_wp2_with (at_builtin; refine wpList_append_at _ rfl (.tmp 30) (.tmp 32) 22 rfl w.heap.size 52 i52 _ 8 136 Try.underlying22 hi52 hx0 hx1 hx2 rfl (by decide) (.slice va os.length vc) os.length (rowsOf Rx.row os) rfl HOD.out ⟨w3.heap.size, 0, none⟩ 1 1 o.row rfl rfl HND.out (rx_one _) hlm hlb hszD ?_; intro v7 w7 hown7 hgrow7 hat7; have HG7 := hideL (HGL3.out.more (mm := 0) (p := o) hown7 hgrow7 HRO.out); have HA7 := hideL (Mp.app (mm := 0) HGL3.out.row hgrow7 HMA3.out); clear hown7 hgrow7 hat7)
        go_roundw
        case rel => exact ⟨i + 1, os ++ [o], by go_num, by omega, HG7.out, HN1.out, HA7.out⟩
        case measure => simp [intOf]; omega
    · have h3' : ¬ (i : Int) < n := by omega
      obtain rfl : i = n := by omega
      have HOC : Hid (os.map Rx.toRs = (C.map Rx.toRs).filter (fun r => (firstsF (D.map Rx.toRs) r.key).isNone)) := by
        unfold Hid
        rw [HOS.out, List.take_of_length_le (by simp; have := HN.out; omega)]
      go_wp2_with fail
      go_loopw [6, 37] (fun v t wr => ∃ (j : Nat) (os : List Rx), t = .int .i64 j ∧ j ≤ m ∧ Gl w wr v os ∧ os.map Rx.toRs = (C.map Rx.toRs).filter (fun r => (firstsF (D.map Rx.toRs) r.key).isNone) ++ ((D.map Rx.toRs).take j).filter (fun r => !r.del) ∧ os.length ≤ i + j) (fun _ t _ => m - (intOf t).toNat)
      case atStart => exact ⟨0, os, rfl, by omega, HGL.out, by rw [HOC.out]; simp, by omega⟩
      case round =>
        clear HGL HMA HOS HOC hvc hvm hol
        obtain ⟨j, os, rfl, hj, hgl, hos, hol⟩ := hrel
        have j0 : (0 : Int) ≤ j := by omega
        obtain ⟨va, vc, rfl, _, hvc, hvm⟩ := own_form hgl.row
        have HGL := hideL hgl
        have HOS := hideL hos
        clear hgl hos
        by_cases h4 : j < m
        · have h4' : (j : Int) < m := by omega
          rcases hki : D[j]? with _ | o
          · have := List.getElem?_eq_none_iff.1 hki; have := HM.out; omega
          have HRO := hideL (HD.out.each o (List.mem_of_getElem? hki))
          obtain ⟨g, off, rfl, d0, d1, d2, d3, d4, d5, d6, d7⟩ := (HD.out.row.below HGL.out.bel).cells hki
          have HST : Hid (((D.map Rx.toRs).take (j + 1)).filter (fun r => !r.del) = ((D.map Rx.toRs).take j).filter (fun r => !r.del) ++ (if (!o.toRs.del) = true then [o.toRs] else [])) := filter_step _ (by simp [hki])
          clear hki
          obtain ⟨⟨kd, nm, eps, tgs, host, rus, route, del⟩, ea, ec, ta, tc, ra, rc⟩ := o
          dsimp only at d0 d1 d2 d3 d4 d5 d6 d7
          cases del
          · have HN1 : Hid ((os ++ [(⟨⟨kd, nm, eps, tgs, host, rus, route, false⟩, ea, ec, ta, tc, ra, rc⟩ : Rx)]).map Rx.toRs = (C.map Rx.toRs).filter (fun r => (firstsF (D.map Rx.toRs) r.key).isNone) ++ ((D.map Rx.toRs).take (j + 1)).filter (fun r => !r.del)) := by
              unfold Hid
              rw [HST.out, List.map_append, HOS.out]; simp
            have HGL3 := hideL (HGL.out.below (Gr.alloc wr (Obj.cells #[.int .i64 kd, .string nm, .slice ea eps.length ec, .slice ta tgs.length tc, .string host, .slice ra rus.length rc, .string route, .bool false] 52)).below)
            have HOD : Hid (((wr.alloc (Obj.cells #[.int .i64 kd, .string nm, .slice ea eps.length ec, .slice ta tgs.length tc, .string host, .slice ra rus.length rc, .string route, .bool false] 52)).alloc (Obj.cells #[.int .i64 kd, .string nm, .slice ea eps.length ec, .slice ta tgs.length tc, .string host, .slice ra rus.length rc, .string route, .bool false] 52)).ownsRow w.heap.size 52 8 (.slice va os.length vc) os.length (rowsOf Rx.row os)) := HGL3.out.row.alloc _
            have HND : Hid (∀ j u, (⟨⟨kd, nm, eps, tgs, host, rus, route, false⟩, ea, ec, ta, tc, ra, rc⟩ : Rx).row[j]? = some u → ((wr.alloc (Obj.cells #[.int .i64 kd, .string nm, .slice ea eps.length ec, .slice ta tgs.length tc, .string host, .slice ra rus.length rc, .string route, .bool false] 52)).alloc (Obj.cells #[.int .i64 kd, .string nm, .slice ea eps.length ec, .slice ta tgs.length tc, .string host, .slice ra rus.length rc, .string route, .bool false] 52)).cell? ((⟨wr.heap.size + 1, 0, none⟩ : Addr).add j) = some u) := World.news_of_block (w := ((wr.alloc _).alloc _)) (blk2 wr _ _)
            have hszD : w.heap.size ≤ ((wr.alloc (Obj.cells #[.int .i64 kd, .string nm, .slice ea eps.length ec, .slice ta tgs.length tc, .string host, .slice ra rus.length rc, .string route, .bool false] 52)).alloc (Obj.cells #[.int .i64 kd, .string nm, .slice ea eps.length ec, .slice ta tgs.length tc, .string host, .slice ra rus.length rc, .string route, .bool false] 52)).heap.size := Nat.le_trans HGL3.out.bel.size (by simp)
            have hlm : os.length + 1 ≤ maxLen := by unfold maxLen; omega
            have hlb : (os.length + 1) * 136 ≤ 140737488355328 := by omega
            go_wp2_with (at_builtin; refine wpList_append_at _ rfl (.tmp 44) (.tmp 46) 22 rfl w.heap.size 52 i52 _ 8 136 Try.underlying22 hi52 hx0 hx1 hx2 rfl (by decide) (.slice va os.length vc) os.length (rowsOf Rx.row os) rfl HOD.out ⟨wr.heap.size + 1, 0, none⟩ 1 1 (⟨⟨kd, nm, eps, tgs, host, rus, route, false⟩, ea, ec, ta, tc, ra, rc⟩ : Rx).row rfl rfl HND.out (rx_one _) hlm hlb hszD ?_; intro v7 w7 hown7 hgrow7 hat7; have HG7 := hideL (HGL3.out.more (mm := 0) (p := (⟨⟨kd, nm, eps, tgs, host, rus, route, false⟩, ea, ec, ta, tc, ra, rc⟩ : Rx)) hown7 hgrow7 HRO.out); clear hown7 hgrow7 hat7)
            go_roundw
            case rel => exact ⟨j + 1, os ++ [(⟨⟨kd, nm, eps, tgs, host, rus, route, false⟩, ea, ec, ta, tc, ra, rc⟩ : Rx)], by go_num, by omega, HG7.out, HN1.out, by simp; omega⟩
            case measure => simp [intOf]; omega
          · have HN1 : Hid (os.map Rx.toRs = (C.map Rx.toRs).filter (fun r => (firstsF (D.map Rx.toRs) r.key).isNone) ++ ((D.map Rx.toRs).take (j + 1)).filter (fun r => !r.del)) := by
              unfold Hid
              rw [HST.out, HOS.out]; simp
            obtain ⟨w3, hw3⟩ : ∃ X, wr.alloc (.cells #[.int .i64 kd, .string nm, .slice ea eps.length ec, .slice ta tgs.length tc, .string host, .slice ra rus.length rc, .string route, .bool true] 52) = X := ⟨_, rfl⟩
            have HG3 : Hid (Gr wr w3) := by rw [← hw3]; exact Gr.alloc _ _
            have HX3 : Hid (w3.heap[wr.heap.size]? = some (boxO (⟨⟨kd, nm, eps, tgs, host, rus, route, true⟩, ea, ec, ta, tc, ra, rc⟩ : Rx))) := by rw [← hw3]; exact heap_alloc_new wr _
            have HGL3 := hideL (HGL.out.below HG3.out.below)
            obtain ⟨e0, e1, e2, e3, e4, e5, e6, e7⟩ := box8 HX3.out
            dsimp only at e0 e1 e2 e3 e4 e5 e6 e7
            go_wp2_with fail
            go_roundw
            case rel => exact ⟨j + 1, os, by go_num, by omega, HGL3.out, HN1.out, by omega⟩
            case measure => simp [intOf]; omega
        · have h4' : ¬ (j : Int) < m := by omega
          obtain rfl : j = m := by omega
          go_wp2
          go_ret
          refine ⟨_, rfl, os, HGL.out, ?_⟩
          rw [HOS.out, List.take_of_length_le (by simp; have := HM.out; omega)]
          rfl
end Go.Proofs.Ytmljljpldljpjaa

/-
  Nothing sorted.
-/
namespace Go.Proofs.Ytmljljpldljpjaa
open Go.RowKit
theorem sort_none (W : World) (B blk : Nat) : Calls Try.prog 44 #[.slice (some ⟨blk, 0, none⟩) 0 0, .func (.func 45) #[] #[.pointer (some ⟨B, 0, none⟩)]] W fun e w' => e = .returned (.tuple #[]) ∧ w' = W :=
  AnyF.slices_SortFunc_none { Try.laysSlF6_f44 with } (some ⟨blk, 0, none⟩) 0 (.func (.func 45) #[] #[.pointer (some ⟨B, 0, none⟩)]) W
end Go.Proofs.Ytmljljpldljpjaa

/-
  Merge.
-/
namespace Go.Proofs.Ytmljljpldljpjaa
open Go.RowKit
set_option linter.unusedVariables false
set_option linter.unusedSimpArgs false
set_option maxRecDepth 100000
theorem wrongF_ne {C D : List Rs} {i : Nat} {x : Int} (h : wrongF C D = some (i, x)) : x ≠ 0 := by
  unfold wrongF at h
  split at h
  · rename_i j hj
    have hp := List.find?_some hj
    simp only [Option.some.injEq, Prod.mk.injEq] at h
    obtain ⟨rfl, hx⟩ := h
    rcases hD : D[j]? with _ | r
    · rw [hD] at hp; cases hp
    · rw [hD] at hp hx
      dsimp only at hp hx
      rw [← hx]
      exact of_decide_eq_true hp
  · cases h
/-- what Merge refuses, and why -/
def mrF (C D : List Rs) : Option (Int × Int) := if astF C ≠ C.length then some (0, 2) else match wrongF C D with | some (i, x) => some ((i : Int), x) | none => if 64 < (mergL C D).length then some (0, 124) else none
/-- what Merge leaves -/
def MergE (w : World) (C D : List Rs) (e : Ending) (w' : World) : Prop := Below w.heap.size w w' ∧ ((∃ a x, mrF C D = some (a, x) ∧ e = .returned (.tuple #[.slice none 0 0, .int .i64 a, .int .i64 x])) ∨
  (mrF C D = none ∧ ∃ a c qs, e = .returned (.tuple #[.slice a (qs.length : Nat) c, .int .i64 0, .int .i64 0]) ∧ Ol w' w.heap.size (.slice a qs.length c) qs ∧ SortP (mergL C D) (qs.map Rx.toRs)))
theorem mergL_len (C D : List Rs) : (mergL C D).length ≤ C.length + D.length := by
  unfold mergL
  rw [List.length_append]
  have := List.length_filter_le (fun r => (firstsF D r.key).isNone) C
  have := List.length_filter_le (fun r : Rs => !r.del) D
  omega
set_option maxHeartbeats 16000000 in
theorem merge_any (w : World) (a b : Option Addr) (n m c1 c2 : Nat) (C D : List Rx) (hC : Lr w a C) (hD : Lr w b D) (hn : C.length = n) (hm : D.length = m) (hs : n ≤ 1048576) (hs2 : m ≤ 1048576) :
    Calls Try.prog 10 #[.slice a n c1, .slice b m c2] w fun e w' => MergE w (C.map Rx.toRs) (D.map Rx.toRs) e w' := by
  have HC := hideL hC
  have HD := hideL hD
  have HN := hideL hn
  have HM := hideL hm
  clear hC hD hn hm
  have HO := hideL (ordered_any w a n c1 C HC.out HN.out (by omega))
  have hCl : (C.map Rx.toRs).length = n := by simp [HN.out]
  have HCL := hideL hCl
  clear hCl
  go_enter Try.func10, Try.ntmps10
  go_wp2_with fail
  refine HO.out.mono ?_
  rintro e w1 ⟨rfl, hg1⟩
  have HG1 := hideL hg1
  clear hg1 HO
  by_cases ho : astF (C.map Rx.toRs) = n
  · rw [decide_eq_true ho]
    have HOR := hideL ho
    clear ho
    go_wp2_with fail
    refine (firsts_any w1 a n c1 C (HC.out.below HG1.out.below) HN.out (by omega)).mono ?_
    rintro e w2 ⟨rfl, hm2, hb2⟩
    have HB2 := hideL (HG1.out.below.trans (hb2.mono HG1.out.below.size))
    have HW := hideL (wrong_any w2 b m c2 D (C.map Rx.toRs) w1.heap.size n (HD.out.below HB2.out) HM.out hs2 hm2)
    clear hm2 hb2
    go_wp2_with fail
    refine HW.out.mono ?_
    rintro e w3 ⟨rfl, hb3⟩
    have HB3 := hideL (HB2.out.trans (hb3.mono HB2.out.size))
    clear hb3 HW
    rcases hwr : wrongF (C.map Rx.toRs) (D.map Rx.toRs) with _ | ⟨i, x⟩
    · have HMR : Hid (mrF (C.map Rx.toRs) (D.map Rx.toRs) = if 64 < (mergL (C.map Rx.toRs) (D.map Rx.toRs)).length then some (0, 124) else none) := by
        unfold Hid mrF
        rw [if_neg (by rw [HOR.out, HCL.out]; simp), hwr]
      have HA : Hid (Calls Try.prog 26 #[.slice a n c1, .slice b m c2] w3 fun e w' => ∃ v os, e = .returned v ∧ Gl w3 w' v os ∧ os.map Rx.toRs = mergL (C.map Rx.toRs) (D.map Rx.toRs)) := merged_any w3 a b n m c1 c2 C D (HC.out.below HB3.out) (HD.out.below HB3.out) HN.out HM.out hs hs2
      unfold wrA wrE
      dsimp only
      clear hwr
      go_wp2_with fail
      refine HA.out.mono ?_
      rintro e w4 ⟨v4, os, rfl, hgl, hos⟩
      obtain ⟨va, vc, rfl, _, hvc, hvm⟩ := own_form hgl.row
      have HL4 := hideL hgl.lr
      have HOS := hideL hos
      have hol : os.length = (mergL (C.map Rx.toRs) (D.map Rx.toRs)).length := by rw [← hos, List.length_map]
      have hle := mergL_len (C.map Rx.toRs) (D.map Rx.toRs)
      have hsz : os.length ≤ 2097152 := by rw [hol]; simp only [List.length_map] at hle; have := HN.out; have := HM.out; omega
      have HB4 := hideL (HB3.out.trans (hgl.bel.mono HB3.out.size))
      have HOL := hideL hol
      clear hgl hos hol hle HA
      by_cases h64 : 64 < os.length
      · have HR : Hid (mrF (C.map Rx.toRs) (D.map Rx.toRs) = some (0, 124)) := by unfold Hid; rw [HMR.out, if_pos (by rw [← HOL.out]; exact h64)]
        have h64' : (64 : Int) < os.length := by omega
        go_wp2
        go_ret3
        exact ⟨HB4.out, .inl ⟨0, 124, HR.out, rfl⟩⟩
      · have HR : Hid (mrF (C.map Rx.toRs) (D.map Rx.toRs) = none) := by unfold Hid; rw [HMR.out, if_neg (by rw [← HOL.out]; exact h64)]
        have h64' : ¬ (64 : Int) < os.length := by omega
        go_wp2_with fail
        refine (sorted_any sort_none w4 va os.length vc os HL4.out rfl (by omega)).mono ?_
        rintro e w5 ⟨v5, qs, rfl, hol5, hso, hb5⟩
        obtain ⟨a5, c5, rfl, _⟩ := own_form hol5.row
        have HO5 := hideL (hol5.low HB4.out.size)
        have HS5 := hideL hso
        have HB5 := hideL (HB4.out.trans (hb5.mono HB4.out.size))
        clear hol5 hso hb5
        go_wp2
        go_ret3
        exact ⟨HB5.out, .inr ⟨HR.out, a5, c5, qs, rfl, HO5.out, by rw [← HOS.out]; exact HS5.out⟩⟩
    · have hne := wrongF_ne hwr
      have HMR : Hid (mrF (C.map Rx.toRs) (D.map Rx.toRs) = some ((i : Int), x)) := by
        unfold Hid mrF
        rw [if_neg (by rw [HOR.out, HCL.out]; simp), hwr]
      have hne' : (x != 0) = true := by simpa using hne
      have HNE := hideL hne
      unfold wrA wrE
      dsimp only
      clear hwr hne
      go_wp2
      go_ret3
      exact ⟨HB3.out, .inl ⟨i, x, HMR.out, rfl⟩⟩
  · rw [decide_eq_false ho]
    have HMR : Hid (mrF (C.map Rx.toRs) (D.map Rx.toRs) = some (0, 2)) := by
      unfold Hid mrF
      rw [if_pos (by rw [HCL.out]; exact ho)]
    clear ho
    go_wp2
    go_ret3
    exact ⟨HG1.out.below, .inl ⟨0, 2, HMR.out, rfl⟩⟩
end Go.Proofs.Ytmljljpldljpjaa

/-
  Plain facts of the document's Merge.
-/
namespace Go.Proofs.Ytmljljpldljpjaa
open Go.RowKit
set_option linter.unusedVariables false
set_option linter.unusedSimpArgs false
set_option maxRecDepth 100000
theorem takeF {D : List Rs} {i : Nat} {r : Rs} (h : D[i]? = some r) : firstsF (D.take i) r.key = none ↔ firstsF D r.key = some i := by
  constructor
  · intro hn
    rw [firstsF_none_iff] at hn
    refine firstsF_at (fun j x hj hx e => ?_) h rfl
    have : x ∈ D.take i := by
      apply List.mem_of_getElem? (i := j)
      rw [List.getElem?_take_of_lt hj]; exact hx
    exact hn x this e
  · intro hf
    rw [firstsF_none_iff]
    intro x hx e
    obtain ⟨j, hj⟩ := List.getElem?_of_mem hx
    have hji : j < i := by have := (List.getElem?_eq_some_iff.1 hj).1; simp at this; omega
    rw [List.getElem?_take_of_lt hji] at hj
    unfold firstsF at hf
    obtain ⟨_, _, h3⟩ := List.findIdx?_eq_some_iff_getElem.1 hf
    have := h3 j hji
    have e2 := (List.getElem?_eq_some_iff.1 hj).2
    rw [e2] at this
    simp [e] at this
theorem err0 {C D : List Rs} {j : Nat} {x : Rs} (h : errF C D j x = 0) : firstsF D x.key = some j := by
  unfold errF at h
  split at h
  · cases h
  · split at h
    · cases h
    · rename_i h2; simpa using h2
theorem allI_of {C D : List Rs} (hC : KS C) {i : Nat} (hi : i ≤ D.length) (h : ∀ (j : Nat) (x : Rs), j < i → D[j]? = some x → errF C D j x = 0) : AllI C D i := by
  induction i with
  | zero => exact AllI.zero hC
  | succ i ih =>
    have hd : D[i]? = some D[i] := List.getElem?_eq_getElem _
    exact (ih (by omega) (fun j x hj hx => h j x (by omega) hx)).step hd (err0 (h i _ (by omega) hd))
theorem merg_perm {C D : List Rs} (hC : Ordd C) (h : ∀ (j : Nat) (x : Rs), D[j]? = some x → errF C D j x = 0) : (allM C D D.length).Perm (mergL C D) ∧ ((mergL C D).map Rs.key).Nodup ∧ KS (allM C D D.length) := by
  have hA := allI_of hC.ks (Nat.le_refl _) (fun j x _ hx => h j x hx)
  have hCn : (C.map Rs.key).Nodup := by
    rw [List.Nodup, List.pairwise_map]
    exact hC.ks.imp fun {a b} hab e => by rw [e] at hab; exact klt_irrefl _ hab
  have hDn : (D.map Rs.key).Nodup := by
    rw [List.Nodup, List.pairwise_map, List.pairwise_iff_getElem]
    intro i j hi hj hij e
    have h1 := err0 (h i _ (List.getElem?_eq_getElem hi))
    have h2 := err0 (h j _ (List.getElem?_eq_getElem hj))
    rw [e, h2] at h1
    cases h1; omega
  have hk : ((mergL C D).map Rs.key).Nodup := by
    unfold mergL
    rw [List.map_append, List.nodup_append]
    refine ⟨hCn.sublist (List.filter_sublist.map _), hDn.sublist (List.filter_sublist.map _), fun a ha b hb e => ?_⟩
    obtain ⟨x, hx, rfl⟩ := List.mem_map.1 ha
    obtain ⟨y, hy, rfl⟩ := List.mem_map.1 hb
    have h1 := (List.mem_filter.1 hx).2
    have h2 := (List.mem_filter.1 hy).1
    rw [Option.isNone_iff_eq_none, firstsF_none_iff] at h1
    exact h1 y h2 e.symm
  have hmn : (mergL C D).Nodup := by
    rw [List.Nodup, List.pairwise_map] at hk
    exact hk.imp fun {a b} hab e => hab (by rw [e])
  have han : (allM C D D.length).Nodup := hA.ks.imp fun {a b} hab e => by rw [e] at hab; exact klt_irrefl _ hab
  refine ⟨(List.perm_ext_iff_of_nodup han hmn).2 fun x => ?_, hk, hA.ks⟩
  rw [hA.mem, List.take_length]
  unfold mergL
  rw [List.mem_append, List.mem_filter, List.mem_filter, Option.isNone_iff_eq_none, firstsF_none_iff]
  simp
theorem dropX_says {os : List Rx} {j : Nat} {k : Int × ByteArray} (h : firstsF (os.map Rx.toRs) k = some j) : (os.take j ++ os.drop (j + 1)).map Rx.toRs = dropK (os.map Rx.toRs) k := by
  unfold dropK; rw [h]; simp [List.map_take, List.map_drop]
theorem dropX_none {os : List Rx} {k : Int × ByteArray} (h : firstsF (os.map Rx.toRs) k = none) : os.map Rx.toRs = dropK (os.map Rx.toRs) k := by
  unfold dropK; rw [h]
/-- what the document's Merge leaves -/
def RmE (w : World) (C D : List Rs) (e : Ending) (w' : World) : Prop := Below w.heap.size w w' ∧ ((∃ a x, mrF C D = some (a, x) ∧ e = .returned (.tuple #[.slice none 0 0, .int .i64 a, .int .i64 x])) ∨
  (mrF C D = none ∧ ∃ a c qs, e = .returned (.tuple #[.slice a (qs.length : Nat) c, .int .i64 0, .int .i64 0]) ∧ Lr w' a qs ∧ qs.map Rx.toRs = allM C D D.length))
end Go.Proofs.Ytmljljpldljpjaa

/-
  What Merge answers and what the document's answers is the same: plain.
-/
namespace Go.Proofs.Ytmljljpldljpjaa
open Go.RowKit
set_option linter.unusedVariables false
set_option linter.unusedSimpArgs false
theorem wrongF_zero {C D : List Rs} (h : wrongF C D = none) : ∀ (j : Nat) (x : Rs), D[j]? = some x → errF C D j x = 0 := by
  intro j x hj
  have hjl := (List.getElem?_eq_some_iff.1 hj).1
  unfold wrongF at h
  split at h
  · cases h
  · rename_i hf
    have := List.find?_eq_none.1 hf j (by simpa using hjl)
    rw [hj] at this
    simpa using this
theorem mrF_none {C D : List Rs} (h : mrF C D = none) : Ordd C ∧ (∀ (j : Nat) (x : Rs), D[j]? = some x → errF C D j x = 0) ∧ (mergL C D).length ≤ 64 := by
  unfold mrF at h
  split at h
  · cases h
  · rename_i ho
    have ho' : astF C = C.length := Classical.not_not.1 ho
    rcases hw : wrongF C D with _ | ⟨i, x⟩
    · rw [hw] at h
      dsimp only at h
      split at h
      · cases h
      · exact ⟨astF_ord ho', wrongF_zero hw, by omega⟩
    · rw [hw] at h; cases h
theorem merg_one {C D M : List Rs} (h : mrF C D = none) (hs : SortP (mergL C D) M) : M = allM C D D.length := by
  obtain ⟨h1, h2, _⟩ := mrF_none h
  obtain ⟨hp, hk, hks⟩ := merg_perm h1 h2
  obtain ⟨a, b⟩ := hs.spec hk
  exact KS.ext a hks fun r => (b r).trans hp.mem_iff.symm
end Go.Proofs.Ytmljljpldljpjaa

/-
  The document's Merge.
-/
namespace Go.Proofs.Ytmljljpldljpjaa
open Go.RowKit
set_option linter.unusedVariables false
set_option linter.unusedSimpArgs false
set_option maxRecDepth 100000
theorem gl_form {w0 W : World} {v : Value} {os : List Rx} (h : Gl w0 W v os) : ∃ a c, v = .slice a os.length c ∧ Lr W a os ∧ Frm a os.length c ∧ Below w0.heap.size w0 W := by
  obtain ⟨a, c, rfl, _⟩ := own_form h.row
  exact ⟨a, c, rfl, h.lr, own_frm h.row, h.bel⟩
set_option maxHeartbeats 32000000 in
theorem rmerge_any (w : World) (a b : Option Addr) (n m c1 c2 : Nat) (C D : List Rx) (hC : Lr w a C) (hD : Lr w b D) (hfC : Frm a n c1) (hfD : Frm b m c2) (hn : C.length = n) (hm : D.length = m) (hs : n ≤ 1048576) (hs2 : m ≤ 1048576) :
    Calls Try.prog 11 #[.slice a n c1, .slice b m c2] w fun e w' => RmE w (C.map Rx.toRs) (D.map Rx.toRs) e w' := by
  have HC := hideL hC
  have HD := hideL hD
  have HFC := hideL hfC
  have HFD := hideL hfD
  have HN := hideL hn
  have HM := hideL hm
  clear hC hD hfC hfD hn hm
  have HO := hideL (out_any w a n c1 C HC.out HN.out (by omega))
  have HCL : Hid ((C.map Rx.toRs).length = n) := by unfold Hid; simp [HN.out]
  have HDL : Hid ((D.map Rx.toRs).length = m) := by unfold Hid; simp [HM.out]
  go_enter Try.func11, Try.ntmps11
  go_wp2_with fail
  refine HO.out.mono ?_
  rintro e w1 ⟨rfl, hg1⟩
  have HG1 := hideL hg1
  clear hg1 HO
  by_cases ho : astF (C.map Rx.toRs) = n
  · have hout : outI (C.map Rx.toRs) = -1 := by unfold outI; rw [if_pos (by rw [HCL.out]; exact ho)]
    rw [hout]
    have HORD := hideL (astF_ord (C := C.map Rx.toRs) (by rw [HCL.out]; exact ho))
    have HMS : Hid (∀ (i : Nat) (x : Int), wrongF (C.map Rx.toRs) (D.map Rx.toRs) = some (i, x) → mrF (C.map Rx.toRs) (D.map Rx.toRs) = some ((i : Int), x)) := fun i x h => by
      unfold mrF; rw [if_neg (by rw [HCL.out]; simp [ho]), h]
    have HMN : Hid (wrongF (C.map Rx.toRs) (D.map Rx.toRs) = none → mrF (C.map Rx.toRs) (D.map Rx.toRs) = if 64 < (mergL (C.map Rx.toRs) (D.map Rx.toRs)).length then some (0, 124) else none) := fun h => by
      unfold mrF; rw [if_neg (by rw [HCL.out]; simp [ho]), h]
    clear hout ho
    go_wp2_with fail
    go_loopw [7, 8] (fun v t wr => ∃ (i : Nat) (va : Option Addr) (vc : Nat) (os : List Rx), v = .slice va os.length vc ∧ t = .int .i64 i ∧ i ≤ m ∧ Lr wr va os ∧ Frm va os.length vc ∧ os.map Rx.toRs = allM (C.map Rx.toRs) (D.map Rx.toRs) i ∧ os.length ≤ n + i ∧ Below w.heap.size w wr ∧ Hid (∀ (j : Nat) (x : Rs), j < i → (D.map Rx.toRs)[j]? = some x → errF (C.map Rx.toRs) (D.map Rx.toRs) j x = 0)) (fun _ t _ => m - (intOf t).toNat)
    case atStart => exact ⟨0, a, c1, C, by rw [HN.out], rfl, by omega, HC.out.below HG1.out.below, by rw [HN.out]; exact HFC.out, rfl, by rw [HN.out]; omega, HG1.out.below, fun j x hj => by omega⟩
    case round =>
      obtain ⟨i, va, vc, os, rfl, rfl, hi, hlr, hfr, hos, hol, hbel, HF⟩ := hrel
      have i0 : (0 : Int) ≤ i := by omega
      have HLR := hideL hlr
      have HFR := hideL hfr
      have HOS := hideL hos
      have HB := hideL hbel
      clear hlr hfr hos hbel HG1
      by_cases h3 : i < m
      · have h3' : (i : Int) < m := by omega
        rcases hki : D[i]? with _ | o
        · have := List.getElem?_eq_none_iff.1 hki; have := HM.out; omega
        have HRO := hideL (HD.out.each o (List.mem_of_getElem? hki))
        obtain ⟨g, off, rfl, d0, d1, d2, d3, d4, d5, d6, d7⟩ := (HD.out.row.below HB.out).cells hki
        have HKI : Hid ((D.map Rx.toRs)[i]? = some o.toRs) := by unfold Hid; simp [hki]
        have hcl : m ≤ c2 := by
          rcases HFD.out with ⟨h, _⟩ | ⟨x, _, h1, h2⟩
          · cases h
          · exact h1
        have hic : (i : Int) ≤ c2 := by omega
        have HBAD : Hid (∀ v : Int, errF (C.map Rx.toRs) (D.map Rx.toRs) i o.toRs = v → v ≠ 0 → mrF (C.map Rx.toRs) (D.map Rx.toRs) = some ((i : Int), v)) := fun v h h0 => by
          have := wrongF_stop HF.out HKI.out (by rw [h]; exact h0)
          rw [h] at this
          exact HMS.out i v this
        have HGOOD : Hid (errF (C.map Rx.toRs) (D.map Rx.toRs) i o.toRs = 0 → ∀ (j : Nat) (x : Rs), j < i + 1 → (D.map Rx.toRs)[j]? = some x → errF (C.map Rx.toRs) (D.map Rx.toRs) j x = 0) := fun h j x hj hx => by
          by_cases hji : j < i
          · exact HF.out j x hji hx
          · obtain rfl : j = i := by omega
            rw [HKI.out] at hx; cases hx; exact h
        have HAI := hideL (allI_of HORD.out.ks (i := i) (by rw [HDL.out]; omega) HF.out)
        have HTK := hideL (takeF HKI.out)
        have HSTEP := hideL (allM_step (C := C.map Rx.toRs) HKI.out)
        have HCT : Hid (Cel wr (some ⟨g, off, none⟩) 8 ((D.take i).map Rx.row)) := by
          rcases HD.out.row.below HB.out with h | ⟨g2, o2, e2, h2⟩
          · exact .inl (by simp at h; simp [h])
          · refine .inr ⟨g2, o2, e2, fun j r hj => h2 j r ?_⟩
            rw [List.map_take] at hj
            have hik : j < i := by have := (List.getElem?_eq_some_iff.1 hj).1; simp at this; omega
            rwa [List.getElem?_take_of_lt hik] at hj
        clear hki
        obtain ⟨w2, hw2⟩ : ∃ X, wr.alloc (boxO o) = X := ⟨_, rfl⟩
        have HG2 : Hid (Gr wr w2) := by rw [← hw2]; exact Gr.alloc _ _
        have HX2 : Hid (w2.heap[wr.heap.size]? = some (boxO o)) := by rw [← hw2]; exact heap_alloc_new wr _
        unfold boxO at hw2
        have HB2 := hideL (HB.out.trans (HG2.out.below.mono HB.out.size))
        obtain ⟨e0, e1, e2, e3, e4, e5, e6, e7⟩ := box8 HX2.out
        by_cases hk1 : o.kd < 1
        · have HR := hideL (HBAD.out 2 (by unfold errF; rw [if_pos (.inl hk1)]) (by decide))
          have hk1' : decide (o.kd < 1) = true := by simpa using hk1
          go_wp2
          go_ret3
          exact ⟨HB2.out, .inl ⟨i, 2, HR.out, rfl⟩⟩
        · have hk1' : decide (o.kd < 1) = false := by simp; omega
          by_cases hk2 : 4 < o.kd
          · have HR := hideL (HBAD.out 2 (by unfold errF; rw [if_pos (.inr hk2)]) (by decide))
            have hk2' : decide (4 < o.kd) = true := by simpa using hk2
            go_wp2
            go_ret3
            exact ⟨HB2.out, .inl ⟨i, 2, HR.out, rfl⟩⟩
          · have hk2' : decide (4 < o.kd) = false := by simp; omega
            have HKD : Hid (¬ (o.kd < 1 ∨ 4 < o.kd)) := by unfold Hid; omega
            have HF1 : Hid (∀ q c, Calls Try.prog 28 #[.slice (some ⟨g, off, none⟩) i c, .int .i64 o.kd, .string o.nm] (w2.drewN q) fun e w' => e = .returned (.int .i64 (findI ((D.take i).map Rx.toRs) (o.kd, o.nm))) ∧ w' = w2.drewN q) := fun q c =>
              find_any _ _ i c (D.take i) o.kd o.nm (by rw [List.length_take, HM.out]; omega) (by omega) (HCT.out.below (HG2.out.trans (Gr.drewN _ _)).below)
            rcases hf1 : firstsF ((D.take i).map Rx.toRs) (o.kd, o.nm) with _ | j1
            · have hfi : findI ((D.take i).map Rx.toRs) (o.kd, o.nm) = -1 := by unfold findI; rw [hf1]
              rw [hfi] at HF1
              have HFS : Hid (firstsF (D.map Rx.toRs) o.toRs.key = some i) := HTK.out.1 (by rw [← List.map_take]; exact hf1)
              clear hf1 hfi
              go_wp2_with fail
              go_quiet ((go_at_call 28; exact Calls.quiet_of_same (HF1.out _ _)))
              go_wp2_with fail
              obtain ⟨w3, hw3⟩ : ∃ X, w2.drewN nq = X := ⟨_, rfl⟩
              have HG3 : Hid (Gr wr w3) := by rw [← hw3]; exact HG2.out.trans (Gr.drewN _ _)
              have HX3 : Hid (w3.heap[wr.heap.size]? = some (boxO o)) := by rw [← hw3]; exact (Gr.drewN w2 nq).below.cells HX2.out
              rw [hw3]
              have HB3 := hideL (HB.out.trans (HG3.out.below.mono HB.out.size))
              have HL3 := hideL (HLR.out.below HG3.out.below)
              have HR3 := hideL (HRO.out.below HB3.out)
              obtain ⟨B, hB⟩ : ∃ B, wr.heap.size = B := ⟨_, rfl⟩
              rw [hB] at HX3 ⊢
              clear HX2 HG2 hw2 e0 e1 e2 e3 e4 e5 e6 e7 d0 d1 d2 d3 d4 d5 d6 d7 HCT HF1 hw3 HB2 HLR HG3 hB
              obtain ⟨e0, e1, e2, e3, e4, e5, e6, e7⟩ := box8 HX3.out
              refine (find_any w3 va os.length vc os o.kd o.nm rfl (by omega) HL3.out.row).mono ?_
              rintro e w4 ⟨rfl, hw4⟩
              have hw4 := hw4.symm
              subst hw4
              have HHAS := hideL (HAI.out.has HKI.out HFS.out)
              rw [← HOS.out] at HHAS
              have HE : Hid (errF (C.map Rx.toRs) (D.map Rx.toRs) i o.toRs = if o.del = true ∧ firstsF (os.map Rx.toRs) (o.kd, o.nm) = none then 290 else 0) := by
                unfold Hid errF
                rw [if_neg HKD.out, if_neg (by simp [HFS.out])]
                by_cases h : o.del = true ∧ firstsF (os.map Rx.toRs) (o.kd, o.nm) = none
                · rw [if_pos h, if_pos ⟨h.1, HHAS.out.1 h.2⟩]
                · rw [if_neg h, if_neg (fun h' => h ⟨h'.1, HHAS.out.2 h'.2⟩)]
              rw [← HOS.out] at HSTEP
              have HOL : Hid (os.length ≤ n + i) := hol
              rcases hf2 : firstsF (os.map Rx.toRs) (o.kd, o.nm) with _ | j2
              · have hfi : findI (os.map Rx.toRs) (o.kd, o.nm) = -1 := by unfold findI; rw [hf2]
                rw [hfi]
                rw [hf2] at HE
                have HDX : Hid (os.map Rx.toRs = dropK (os.map Rx.toRs) o.toRs.key) := dropX_none hf2
                clear hf2 hfi
                cases hdl : o.del
                · rw [hdl] at e7 HE
                  have HR := hideL (HGOOD.out (by rw [HE.out]; simp))
                  have HP30 := hideL (put_any w3 va os.length vc os o HL3.out HR3.out rfl (by omega) HFR.out)
                  unfold Rx.val at HP30
                  rw [hdl] at HP30
                  have HST : Hid ((putX os o).map Rx.toRs = allM (C.map Rx.toRs) (D.map Rx.toRs) (i + 1)) := by
                    unfold Hid
                    rw [HSTEP.out, putX_says]; unfold stepM
                    rw [if_neg (by simp [hdl]), ← HDX.out]
                  clear hdl
                  go_wp2_with fail
                  refine HP30.out.mono ?_
                  rintro e w5 ⟨v, rfl, hgl⟩
                  obtain ⟨a5, c5, rfl, hl5, hf5, hb5⟩ := gl_form hgl
                  have HL5 := hideL hl5
                  have HF5 := hideL hf5
                  have HB5 := hideL hb5
                  clear hgl hl5 hf5 hb5 HP30
                  go_wp2
                  go_roundw
                  case rel => exact ⟨i + 1, a5, c5, putX os o, rfl, by go_num, by omega, HL5.out, HF5.out, HST.out, by rw [putX_len]; have := HOL.out; omega, HB3.out.trans (HB5.out.mono HB3.out.size), HR.out⟩
                  case measure => simp [intOf]; omega
                · rw [hdl] at e7 HE
                  have HR := hideL (HBAD.out 290 (by rw [HE.out]; simp) (by decide))
                  clear hdl
                  go_wp2
                  go_ret3
                  exact ⟨HB3.out, .inl ⟨i, 290, HR.out, rfl⟩⟩
              · have hfi : findI (os.map Rx.toRs) (o.kd, o.nm) = j2 := by unfold findI; rw [hf2]
                rw [hfi]
                rw [hf2] at HE
                have HR := hideL (HGOOD.out (by rw [HE.out]; simp))
                have hj2 : j2 < os.length := by
                  unfold firstsF at hf2
                  obtain ⟨h, _⟩ := List.findIdx?_eq_some_iff_getElem.1 hf2
                  simpa using h
                have HDX := hideL (dropX_says hf2)
                have j0 : (0 : Int) ≤ j2 := by omega
                have j1 : ¬ (j2 : Int) < 0 := by omega
                have j3 : decide ((j2 : Int) < 0) = false := by simp
                have HD29 := hideL (drop_any w3 va os.length vc j2 os HL3.out rfl (by omega) HFR.out hj2)
                clear hf2 hfi
                have hlen : (os.take j2 ++ os.drop (j2 + 1)).length ≤ os.length := by simp; omega
                generalize os.take j2 ++ os.drop (j2 + 1) = xs at HDX HD29 hlen
                have HDR : Hid (∀ (P : Ending → World → Prop), (∀ (v : Value) (w5 : World) (a5 : Option Addr) (c5 : Nat), v = .slice a5 xs.length c5 → Lr w5 a5 xs → Frm a5 xs.length c5 → Below w3.heap.size w3 w5 → P (.returned v) w5) → Calls Try.prog 29 #[.slice va os.length vc, .int .i64 j2] w3 P) := fun P h => HD29.out.mono (by
                  rintro e w5 ⟨v, rfl, hgl⟩
                  obtain ⟨a5, c5, hv, hl5, hf5, hb5⟩ := gl_form hgl
                  exact h v w5 a5 c5 hv hl5 hf5 hb5)
                clear HD29
                cases hdl : o.del
                · rw [hdl] at e7
                  have HST : Hid ((putX xs o).map Rx.toRs = allM (C.map Rx.toRs) (D.map Rx.toRs) (i + 1)) := by
                    unfold Hid
                    rw [HSTEP.out, putX_says]; unfold stepM
                    rw [if_neg (by simp [hdl]), HDX.out]; rfl
                  have HP30 : Hid (∀ (W : World) (a5 : Option Addr) (c5 : Nat), Lr W a5 xs → Rin W o → Frm a5 xs.length c5 → Calls Try.prog 30 #[.slice a5 xs.length c5, .agg #[.int .i64 o.kd, .string o.nm, .slice o.ea o.eps.length o.ec, .slice o.ta o.tgs.length o.tc, .string o.host, .slice o.ra o.rus.length o.rc, .string o.route, .bool false]] W fun e w' => ∃ v, e = .returned v ∧ Gl W w' v (putX xs o)) := fun W a5 c5 h1 h2 h3 => by
                    have := put_any W a5 xs.length c5 xs o h1 h2 rfl (by omega) h3
                    unfold Rx.val at this
                    rw [hdl] at this
                    exact this
                  have HX7 : Hid (∀ W : World, W.heap[B]? = some (boxO o) → W.cell? ⟨B, 7, none⟩ = some (.bool false)) := fun W h => by have := (box8 h).2.2.2.2.2.2.2; rw [hdl] at this; exact this
                  clear hdl
                  go_wp2_with fail
                  refine HDR.out _ ?_
                  rintro v w5 a5 c5 rfl hl5 hf5 hb5
                  have HL5 := hideL hl5
                  have HF5 := hideL hf5
                  have HB5 := hideL (HB3.out.trans (hb5.mono HB3.out.size))
                  have HX5 := hideL (show w5.heap[B]? = some (boxO o) from hb5.cells HX3.out)
                  clear hl5 hf5 hb5 HDR e0 e1 e2 e3 e4 e5 e6
                  obtain ⟨x0, x1, x2, x3, x4, x5, x6, -⟩ := box8 HX5.out
                  have x7 := HX7.out w5 HX5.out
                  go_wp2_with fail
                  refine (HP30.out _ a5 c5 HL5.out (HRO.out.below HB5.out) HF5.out).mono ?_
                  rintro e w6 ⟨v, rfl, hgl⟩
                  obtain ⟨a6, c6, rfl, hl6, hf6, hb6⟩ := gl_form hgl
                  have HL6 := hideL hl6
                  have HF6 := hideL hf6
                  have HB6 := hideL hb6
                  clear hgl hl6 hf6 hb6 HP30
                  go_wp2
                  go_roundw
                  case rel => exact ⟨i + 1, a6, c6, putX xs o, rfl, by go_num, by omega, HL6.out, HF6.out, HST.out, by rw [putX_len]; have := HOL.out; omega, HB5.out.trans (HB6.out.mono HB5.out.size), HR.out⟩
                  case measure => simp [intOf]; omega
                · rw [hdl] at e7
                  have HST : Hid (xs.map Rx.toRs = allM (C.map Rx.toRs) (D.map Rx.toRs) (i + 1)) := by
                    unfold Hid
                    rw [HSTEP.out]; unfold stepM
                    rw [if_pos (by simp [hdl]), HDX.out]; rfl
                  have HX7 : Hid (∀ W : World, W.heap[B]? = some (boxO o) → W.cell? ⟨B, 7, none⟩ = some (.bool true)) := fun W h => by have := (box8 h).2.2.2.2.2.2.2; rw [hdl] at this; exact this
                  clear hdl
                  go_wp2_with fail
                  refine HDR.out _ ?_
                  rintro v w5 a5 c5 rfl hl5 hf5 hb5
                  have HL5 := hideL hl5
                  have HF5 := hideL hf5
                  have HB5 := hideL (HB3.out.trans (hb5.mono HB3.out.size))
                  have x7 := HX7.out w5 (hb5.cells HX3.out)
                  clear hl5 hf5 hb5 HDR e0 e1 e2 e3 e4 e5 e6
                  go_wp2
                  go_roundw
                  case rel => exact ⟨i + 1, a5, c5, xs, rfl, by go_num, by omega, HL5.out, HF5.out, HST.out, by have := HOL.out; omega, HB5.out, HR.out⟩
                  case measure => simp [intOf]; omega
            · have hfi : findI ((D.take i).map Rx.toRs) (o.kd, o.nm) = j1 := by unfold findI; rw [hf1]
              rw [hfi] at HF1
              have j0 : (0 : Int) ≤ j1 := by omega
              have HR := hideL (HBAD.out 91 (by
                unfold errF; rw [if_neg HKD.out, if_pos]
                intro h
                have := HTK.out.2 h
                rw [← List.map_take] at this
                have e : firstsF ((D.take i).map Rx.toRs) (o.kd, o.nm) = none := this
                rw [hf1] at e; cases e) (by decide))
              clear hf1 hfi
              go_wp2_with fail
              go_quiet ((go_at_call 28; exact Calls.quiet_of_same (HF1.out _ _)))
              go_wp2
              go_ret3
              exact ⟨HB2.out.trans ((Gr.drewN _ _).below.mono HB2.out.size), .inl ⟨i, 91, HR.out, rfl⟩⟩
      · have h3' : ¬ (i : Int) < m := by omega
        have him : i = m := by omega
        have HALL : Hid (∀ (j : Nat) (x : Rs), (D.map Rx.toRs)[j]? = some x → errF (C.map Rx.toRs) (D.map Rx.toRs) j x = 0) := fun j x hx => HF.out j x (by have := (List.getElem?_eq_some_iff.1 hx).1; rw [HDL.out] at this; omega) hx
        have HPM := hideL (merg_perm HORD.out HALL.out)
        have HWN : Hid (wrongF (C.map Rx.toRs) (D.map Rx.toRs) = none) := wrongF_none HALL.out
        have HFIN := hideL (HMN.out HWN.out)
        have HLEN : Hid (os.length = (mergL (C.map Rx.toRs) (D.map Rx.toRs)).length) := by
          unfold Hid
          rw [← HPM.out.1.length_eq, HDL.out, ← him, ← HOS.out]; simp
        have HOS2 : Hid (os.map Rx.toRs = allM (C.map Rx.toRs) (D.map Rx.toRs) (D.map Rx.toRs).length) := by
          unfold Hid
          rw [HDL.out, ← him]; exact HOS.out
        clear him
        by_cases h64 : 64 < os.length
        · have h64' : (64 : Int) < os.length := by omega
          have HR : Hid (mrF (C.map Rx.toRs) (D.map Rx.toRs) = some (0, 124)) := by
            unfold Hid; rw [HFIN.out, if_pos (by rw [← HLEN.out]; exact h64)]
          go_wp2
          go_ret3
          exact ⟨HB.out, .inl ⟨0, 124, HR.out, rfl⟩⟩
        · have h64' : ¬ (64 : Int) < os.length := by omega
          have HR : Hid (mrF (C.map Rx.toRs) (D.map Rx.toRs) = none) := by
            unfold Hid; rw [HFIN.out, if_neg (by rw [← HLEN.out]; exact h64)]
          go_wp2
          go_ret3
          exact ⟨HB.out, .inr ⟨HR.out, va, vc, os, rfl, HLR.out, HOS2.out⟩⟩
  · have hlt : astF (C.map Rx.toRs) < n := by have := astF_le (C.map Rx.toRs); rw [HCL.out] at this; omega
    have hout : outI (C.map Rx.toRs) = astF (C.map Rx.toRs) := by unfold outI; rw [if_neg (by rw [HCL.out]; exact ho)]
    have HMR : Hid (mrF (C.map Rx.toRs) (D.map Rx.toRs) = some (0, 2)) := by
      unfold Hid mrF
      rw [if_pos (by rw [HCL.out]; exact ho)]
    rw [hout]
    generalize astF (C.map Rx.toRs) = A at hlt ⊢
    clear ho hout
    go_wp2
    go_ret3
    exact ⟨HG1.out.below, .inl ⟨0, 2, HMR.out, rfl⟩⟩
end Go.Proofs.Ytmljljpldljpjaa

/-
  The walk of CheckDiffs.
-/
namespace Go.Proofs.Ytmljljpldljpjaa
open Go.RowKit
set_option linter.unusedVariables false
set_option linter.unusedSimpArgs false
set_option maxRecDepth 100000
theorem Ol.form {W : World} {base : Nat} {v : Value} {os : List Rx} (h : Ol W base v os) : ∃ a c, v = .slice a os.length c := by
  obtain ⟨a, c, e, _⟩ := own_form h.row; exact ⟨a, c, e⟩
theorem toks {w : World} {l r : List Rx} (h : l.map Rx.toRs = r.map Rx.toRs) (hk : ∀ o ∈ r, Rin w o) : ∀ o ∈ l, Rok o.toRs := by
  intro o ho
  have : o.toRs ∈ r.map Rx.toRs := by rw [← h]; exact List.mem_map_of_mem ho
  obtain ⟨p, hp, e⟩ := List.mem_map.1 this
  rw [← e]; exact (hk p hp).ok
/-- what own leaves -/
def OwnE (w : World) (F : List Rx) (e : Ending) (w' : World) : Prop := ∃ a c qs, e = .returned (.slice a F.length c) ∧ qs.length = F.length ∧ Ol w' w.heap.size (.slice a F.length c) qs ∧ Lr w' a qs ∧ qs.map Rx.toRs = F.map Rx.toRs ∧ Below w.heap.size w w'
theorem own_e (w : World) (a : Option Addr) (c : Nat) (os : List Rx) (hL : Lr w a os) (hb : ∀ o ∈ os, Bare o) (hs : os.length ≤ 1048576) : Calls Try.prog 9 #[.slice a os.length c] w fun e w' => OwnE w os e w' := by
  refine (own_any w a os.length c os hL hb rfl hs).mono ?_
  rintro e w' ⟨v, qs, rfl, h1, h2, h3⟩
  obtain ⟨a', c', rfl⟩ := h1.form
  have hl := says_len h2
  rw [hl] at h1 ⊢
  exact ⟨a', c', qs, rfl, hl, h1, h1.lr (toks h2 hL.each), h2, h3⟩
/-- what Diff leaves -/
def DifE (w : World) (R : List Rs) (e : Ending) (w' : World) : Prop := ∃ a c qs, e = .returned (.slice a R.length c) ∧ qs.length = R.length ∧ Ol w' w.heap.size (.slice a R.length c) qs ∧ Lr w' a qs ∧ qs.map Rx.toRs = R ∧ Below w.heap.size w w'
theorem diff_ok {sb : Rs → Rs → Bool} {F T : List Rs} (hF : ∀ r ∈ F, Rok r) (hT : ∀ r ∈ T, Rok r) : ∀ r ∈ foldP (delsL F T F.length ++ newsL sb F T T.length), Rok r := by
  intro r hr
  have hr2 := ((foldP_spec (diff_nodup sb F T _ _)).2 r).1 hr
  rcases List.mem_append.1 hr2 with h | h
  · obtain ⟨j, q, _, hq, _, _, rfl⟩ := delsL_spec h
    have hk := hF q (List.mem_of_getElem? hq)
    exact ⟨hk.k1, hk.n1, by show (0 : Nat) ≤ 1048576; decide, by show (0 : Nat) ≤ 1048576; decide, fun s hs => (by cases hs), fun s hs => (by cases hs), fun s hs => (by cases hs), Nat.zero_le _, Nat.zero_le _, Nat.zero_le _⟩
  · obtain ⟨j, _, hq, _⟩ := newsL_spec h
    exact hT r (List.mem_of_getElem? hq)
theorem diff_e {sb : Rs → Rs → Bool} (hsb : ∀ a b, sb a b = true ↔ SameC a b) (w : World) (a b : Option Addr) (c1 c2 : Nat) (F T : List Rx) (hF : Lr w a F) (hT : Lr w b T) (hs : F.length ≤ 1048576) (hs2 : T.length ≤ 1048576) :
    Calls Try.prog 18 #[.slice a F.length c1, .slice b T.length c2] w fun e w' => DifE w (foldP (delsL (F.map Rx.toRs) (T.map Rx.toRs) F.length ++ newsL sb (F.map Rx.toRs) (T.map Rx.toRs) T.length)) e w' := by
  refine (diff_any sort_none sb hsb w a b F.length T.length c1 c2 F T hF hT rfl rfl hs hs2).mono ?_
  rintro e w' ⟨v, qs, rfl, h1, h2, h3⟩
  obtain ⟨a', c', rfl⟩ := h1.form
  have hl : qs.length = (foldP (delsL (F.map Rx.toRs) (T.map Rx.toRs) F.length ++ newsL sb (F.map Rx.toRs) (T.map Rx.toRs) T.length)).length := by rw [← h2, List.length_map]
  rw [hl] at h1 ⊢
  have hok := diff_ok (sb := sb) (F := F.map Rx.toRs) (T := T.map Rx.toRs) (fun r hr => by obtain ⟨p, hp, rfl⟩ := List.mem_map.1 hr; exact (hF.each p hp).ok) (fun r hr => by obtain ⟨p, hp, rfl⟩ := List.mem_map.1 hr; exact (hT.each p hp).ok)
  rw [List.length_map, List.length_map] at hok
  refine ⟨a', c', qs, rfl, hl, h1, h1.lr (fun o ho => ?_), h2, h3⟩
  exact hok o.toRs (by rw [← h2]; exact List.mem_map_of_mem ho)
set_option maxHeartbeats 32000000 in
theorem checkDiffs_any (w : World) (a b : Option Addr) (n m c1 c2 : Nat) (F T : List Rx) (hF : Lr w a F) (hT : Lr w b T) (hbF : ∀ o ∈ F, Bare o) (hbT : ∀ o ∈ T, Bare o) (hn : F.length = n) (hm : T.length = m) (hs : n ≤ 1048576) (hs2 : m ≤ 1048576) :
    Calls Try.prog 5 #[.slice a n c1, .slice b m c2] w fun e w' => e = .returned (.bool true) ∧ Below w.heap.size w w' := by
  obtain ⟨sb, hsb⟩ : ∃ sb : Rs → Rs → Bool, ∀ a b, (sb a b = true ↔ SameC a b) := ⟨fun a b => @decide (SameC a b) (Classical.propDecidable _), fun a b => @decide_eq_true_iff _ (Classical.propDecidable _)⟩
  subst hn hm
  have HF := hideL hF
  have HTT := hideL hT
  have HBF := hideL hbF
  have HBT := hideL hbT
  have HSB := hideL hsb
  clear hF hT hbF hbT hsb
  go_enter Try.func5, Try.ntmps5
  go_wp2_with fail
  refine (own_e w a c1 F HF.out HBF.out hs).mono ?_
  rintro e w1 ⟨a1, k1, A, rfl, hA1, hA2, hA3, hA4, hb1⟩
  have HA := hideL hA3
  have HAE := hideL hA4
  have HAL := hideL hA1
  have HB1 := hideL hb1
  clear hA1 hA2 hA3 hA4 hb1
  go_wp2_with fail
  refine (own_e w1 b c2 T (HTT.out.below HB1.out) HBT.out hs2).mono ?_
  rintro e w2 ⟨a2, k2, B, rfl, hA1, hA2, hA3, hA4, hb2⟩
  have HBB := hideL hA3
  have HBE := hideL hA4
  have HBL := hideL hA1
  have HA2 := hideL (HA.out.below hb2)
  have HB2 := hideL (HB1.out.trans (hb2.mono HB1.out.size))
  clear hA1 hA2 hA3 hA4 hb2 HA HB1
  have HD : Hid (Calls Try.prog 18 #[.slice a1 F.length k1, .slice a2 T.length k2] w2 fun e w' => DifE w2 (foldP (delsL (F.map Rx.toRs) (T.map Rx.toRs) F.length ++ newsL sb (F.map Rx.toRs) (T.map Rx.toRs) T.length)) e w') := by
    have := diff_e (sb := sb) HSB.out w2 a1 a2 k1 k2 A B HA2.out HBB.out (by rw [HAL.out]; exact hs) (by rw [HBL.out]; exact hs2)
    rw [HAE.out, HBE.out, HAL.out, HBL.out] at this
    exact this
  have HRD := hideL (fun W (hW : Below w.heap.size w W) => rdiff_any sb HSB.out W a b F.length T.length c1 c2 F T (HF.out.below hW) (HTT.out.below hW) rfl rfl hs hs2)
  obtain ⟨R, hR⟩ : ∃ R, foldP (delsL (F.map Rx.toRs) (T.map Rx.toRs) F.length ++ newsL sb (F.map Rx.toRs) (T.map Rx.toRs) T.length) = R := ⟨_, rfl⟩
  rw [hR] at HD HRD
  have HRL : Hid (R.length ≤ 2097152) := by
    unfold Hid
    rw [← hR, foldP_len, List.length_append]
    have := delsL_len (F.map Rx.toRs) (T.map Rx.toRs) F.length
    have := newsL_len sb (F.map Rx.toRs) (T.map Rx.toRs) T.length
    omega
  clear hR
  go_wp2_with fail
  refine HD.out.mono ?_
  rintro e w3 ⟨a3, k3, D, rfl, hD1, hD2, hD3, hD4, hb3⟩
  have HDD := hideL hD3
  have HDE := hideL hD4
  have HDL := hideL hD1
  have HA3 := hideL (HA2.out.below hb3)
  have HBB3 := hideL (HBB.out.below hb3)
  have HB3 := hideL (HB2.out.trans (hb3.mono HB2.out.size))
  clear hD1 hD2 hD3 hD4 hb3 HA2 HB2 HBB HD
  go_wp2_with fail
  refine (HRD.out w3 HB3.out).mono ?_
  rintro e w4 ⟨a4, n4, k4, Q, rfl, hQ1, hQ2, hQ3, hQ4, hb4⟩
  have hn4 : n4 = R.length := by rw [← hQ1, ← hQ4, List.length_map]
  subst hn4
  have HLI := hideL (lists_any w4 a3 a4 R.length k3 k4 D Q HDL.out (by have := HRL.out; omega) (HDD.out.below hb4) hQ2 (by rw [HDE.out, hQ4]))
  have HA4 := hideL (HA3.out.below hb4)
  have HBB4 := hideL (HBB3.out.below hb4)
  have HB4 := hideL (HB3.out.trans (hb4.mono HB3.out.size))
  clear hQ1 hQ2 hQ3 hQ4 hb4 HA3 HBB3 HB3 HDD HRD
  go_wp2_with fail
  refine HLI.out.mono ?_
  rintro e w5 ⟨rfl, hg5⟩
  have HA5 := hideL (HA4.out.below hg5.below)
  have HBB5 := hideL (HBB4.out.below hg5.below)
  have HB5 := hideL (HB4.out.trans (hg5.below.mono HB4.out.size))
  clear hg5 HA4 HBB4 HB4 HLI
  go_wp2_with fail
  refine (own_e w5 a c1 F (HF.out.below HB5.out) HBF.out hs).mono ?_
  rintro e w6 ⟨a6, k6, A6, rfl, hA1, hA2, hA3, hA4, hb6⟩
  have HLI := hideL (lists_any w6 a1 a6 F.length k1 k6 A A6 HAL.out (by omega) (HA5.out.below hb6) hA3 (by rw [HAE.out, hA4]))
  have HBB6 := hideL (HBB5.out.below hb6)
  have HB6 := hideL (HB5.out.trans (hb6.mono HB5.out.size))
  clear hA1 hA2 hA3 hA4 hb6 HA5 HBB5 HB5
  go_wp2_with fail
  refine HLI.out.mono ?_
  rintro e w7 ⟨rfl, hg7⟩
  have HBB7 := hideL (HBB6.out.below hg7.below)
  have HB7 := hideL (HB6.out.trans (hg7.below.mono HB6.out.size))
  clear hg7 HBB6 HB6 HLI
  go_wp2_with fail
  refine (own_e w7 b c2 T (HTT.out.below HB7.out) HBT.out hs2).mono ?_
  rintro e w8 ⟨a8, k8, A8, rfl, hA1, hA2, hA3, hA4, hb8⟩
  have HLI := hideL (lists_any w8 a2 a8 T.length k2 k8 B A8 HBL.out (by omega) (HBB7.out.below hb8) hA3 (by rw [HBE.out, hA4]))
  have HB8 := hideL (HB7.out.trans (hb8.mono HB7.out.size))
  clear hA1 hA2 hA3 hA4 hb8 HBB7 HB7
  go_wp2_with fail
  refine HLI.out.mono ?_
  rintro e w9 ⟨rfl, hg9⟩
  have HB9 := hideL (HB8.out.trans (hg9.below.mono HB8.out.size))
  clear hg9 HB8 HLI
  go_wp2_with fail
  go_loopw [8] (fun t wr => ∃ (i : Nat), t = .int .i64 i ∧ i ≤ F.length ∧ Below w.heap.size w wr) (fun t _ => F.length - (intOf t).toNat)
  case atStart => exact ⟨0, rfl, by omega, HB9.out⟩
  case round =>
    obtain ⟨i, rfl, hi, hbel⟩ := hrel
    have HB := hideL hbel
    clear hbel HB9
    have i0 : (0 : Int) ≤ i := by omega
    by_cases h3 : i < F.length
    · have h3' : (i : Int) < F.length := by omega
      by_cases h4 : i < T.length
      · have h4' : (i : Int) < T.length := by omega
        rcases hki : F[i]? with _ | x
        · have := List.getElem?_eq_none_iff.1 hki; omega
        rcases hkj : T[i]? with _ | o
        · have := List.getElem?_eq_none_iff.1 hkj; omega
        have HRX := hideL (HF.out.each x (List.mem_of_getElem? hki))
        have HRO := hideL (HTT.out.each o (List.mem_of_getElem? hkj))
        obtain ⟨g, off, rfl, y0, y1, y2, y3, y4, y5, y6, y7⟩ := (HF.out.row.below HB.out).cells hki
        obtain ⟨g', off', rfl, d0, d1, d2, d3, d4, d5, d6, d7⟩ := (HTT.out.row.below HB.out).cells hkj
        have HS := hideL (fun (w' : World) (h : Gr wr w') => show (w'.cell? ⟨g, off + i * 8, none⟩ = some (.int .i64 x.kd) ∧ w'.cell? ⟨g, off + i * 8 + 1, none⟩ = some (.string x.nm) ∧ w'.cell? ⟨g, off + i * 8 + 2, none⟩ = some (.slice x.ea x.eps.length x.ec) ∧ w'.cell? ⟨g, off + i * 8 + 3, none⟩ = some (.slice x.ta x.tgs.length x.tc) ∧ w'.cell? ⟨g, off + i * 8 + 4, none⟩ = some (.string x.host) ∧ w'.cell? ⟨g, off + i * 8 + 5, none⟩ = some (.slice x.ra x.rus.length x.rc) ∧ w'.cell? ⟨g, off + i * 8 + 6, none⟩ = some (.string x.route) ∧ w'.cell? ⟨g, off + i * 8 + 7, none⟩ = some (.bool x.del) ∧ w'.cell? ⟨g', off' + i * 8, none⟩ = some (.int .i64 o.kd) ∧ w'.cell? ⟨g', off' + i * 8 + 1, none⟩ = some (.string o.nm) ∧ w'.cell? ⟨g', off' + i * 8 + 2, none⟩ = some (.slice o.ea o.eps.length o.ec) ∧ w'.cell? ⟨g', off' + i * 8 + 3, none⟩ = some (.slice o.ta o.tgs.length o.tc) ∧ w'.cell? ⟨g', off' + i * 8 + 4, none⟩ = some (.string o.host) ∧ w'.cell? ⟨g', off' + i * 8 + 5, none⟩ = some (.slice o.ra o.rus.length o.rc) ∧ w'.cell? ⟨g', off' + i * 8 + 6, none⟩ = some (.string o.route) ∧ w'.cell? ⟨g', off' + i * 8 + 7, none⟩ = some (.bool o.del)) from ⟨h.cell y0, h.cell y1, h.cell y2, h.cell y3, h.cell y4, h.cell y5, h.cell y6, h.cell y7, h.cell d0, h.cell d1, h.cell d2, h.cell d3, h.cell d4, h.cell d5, h.cell d6, h.cell d7⟩)
        have HC1 : Hid (∀ W, Gr wr W → Calls Try.prog 20 #[.agg #[.int .i64 x.kd, .string x.nm, .slice x.ea x.eps.length x.ec, .slice x.ta x.tgs.length x.tc, .string x.host, .slice x.ra x.rus.length x.rc, .string x.route, .bool x.del], .agg #[.int .i64 o.kd, .string o.nm, .slice o.ea o.eps.length o.ec, .slice o.ta o.tgs.length o.tc, .string o.host, .slice o.ra o.rus.length o.rc, .string o.route, .bool o.del]] W fun e w' => e = .returned (.bool (sb x.toRs o.toRs)) ∧ Gr W w') := fun W hW => by
          refine (same_any W x o (HRX.out.below (HB.out.trans (hW.below.mono HB.out.size))) (HRO.out.below (HB.out.trans (hW.below.mono HB.out.size)))).mono ?_
          rintro e w' ⟨⟨b, rfl, hb⟩, h2⟩
          exact ⟨ret_bool (by rw [Bool.eq_iff_iff, hb, HSB.out]), h2⟩
        have HC2 : Hid (∀ W, Gr wr W → Calls Try.prog 21 #[.agg #[.int .i64 x.kd, .string x.nm, .slice x.ea x.eps.length x.ec, .slice x.ta x.tgs.length x.tc, .string x.host, .slice x.ra x.rus.length x.rc, .string x.route, .bool x.del], .agg #[.int .i64 o.kd, .string o.nm, .slice o.ea o.eps.length o.ec, .slice o.ta o.tgs.length o.tc, .string o.host, .slice o.ra o.rus.length o.rc, .string o.route, .bool o.del]] W fun e w' => e = .returned (.bool (sb x.toRs o.toRs)) ∧ Gr W w') := fun W hW => by
          refine (rsame_any W x o (HRX.out.below (HB.out.trans (hW.below.mono HB.out.size))) (HRO.out.below (HB.out.trans (hW.below.mono HB.out.size)))).mono ?_
          rintro e w' ⟨⟨b, rfl, hb⟩, h2⟩
          exact ⟨ret_bool (by rw [Bool.eq_iff_iff, hb, HSB.out]), h2⟩
        have HC3 : Hid (∀ W, Gr wr W → Calls Try.prog 20 #[.agg #[.int .i64 x.kd, .string x.nm, .slice x.ea x.eps.length x.ec, .slice x.ta x.tgs.length x.tc, .string x.host, .slice x.ra x.rus.length x.rc, .string x.route, .bool x.del], .agg #[.int .i64 x.kd, .string x.nm, .slice x.ea x.eps.length x.ec, .slice x.ta x.tgs.length x.tc, .string x.host, .slice x.ra x.rus.length x.rc, .string x.route, .bool x.del]] W fun e w' => e = .returned (.bool true) ∧ Gr W w') := fun W hW => by
          refine (same_any W x x (HRX.out.below (HB.out.trans (hW.below.mono HB.out.size))) (HRX.out.below (HB.out.trans (hW.below.mono HB.out.size)))).mono ?_
          rintro e w' ⟨⟨b, rfl, hb⟩, h2⟩
          exact ⟨ret_bool (hb.2 (SameC.refl _)), h2⟩
        generalize sb x.toRs o.toRs = bb at HC1 HC2
        clear hki hkj HRX HRO
        go_wp2_with fail
        go_region_held3 (fun w' => w'.cell? ⟨g, off + i * 8, none⟩ = some (.int .i64 x.kd) ∧ w'.cell? ⟨g, off + i * 8 + 1, none⟩ = some (.string x.nm) ∧ w'.cell? ⟨g, off + i * 8 + 2, none⟩ = some (.slice x.ea x.eps.length x.ec) ∧ w'.cell? ⟨g, off + i * 8 + 3, none⟩ = some (.slice x.ta x.tgs.length x.tc) ∧ w'.cell? ⟨g, off + i * 8 + 4, none⟩ = some (.string x.host) ∧ w'.cell? ⟨g, off + i * 8 + 5, none⟩ = some (.slice x.ra x.rus.length x.rc) ∧ w'.cell? ⟨g, off + i * 8 + 6, none⟩ = some (.string x.route) ∧ w'.cell? ⟨g, off + i * 8 + 7, none⟩ = some (.bool x.del) ∧ w'.cell? ⟨g', off' + i * 8, none⟩ = some (.int .i64 o.kd) ∧ w'.cell? ⟨g', off' + i * 8 + 1, none⟩ = some (.string o.nm) ∧ w'.cell? ⟨g', off' + i * 8 + 2, none⟩ = some (.slice o.ea o.eps.length o.ec) ∧ w'.cell? ⟨g', off' + i * 8 + 3, none⟩ = some (.slice o.ta o.tgs.length o.tc) ∧ w'.cell? ⟨g', off' + i * 8 + 4, none⟩ = some (.string o.host) ∧ w'.cell? ⟨g', off' + i * 8 + 5, none⟩ = some (.slice o.ra o.rus.length o.rc) ∧ w'.cell? ⟨g', off' + i * 8 + 6, none⟩ = some (.string o.route) ∧ w'.cell? ⟨g', off' + i * 8 + 7, none⟩ = some (.bool o.del)) (go_keep) (first
          | (go_at_call 20; refine (HC3.out _ HG2.out).mono ?_; rintro e w7 ⟨rfl, hg7⟩; have HG3 := hideL (HG2.out.trans hg7); obtain ⟨p0, p1, p2, p3, p4, p5, p6, p7, p8, p9, p10, p11, p12, p13, p14, p15⟩ := HS.out w7 HG3.out; clear hg7)
          | (go_at_call 21; refine (HC2.out _ HG1.out).mono ?_; rintro e w6 ⟨rfl, hg6⟩; have HG2 := hideL (HG1.out.trans hg6); obtain ⟨p0, p1, p2, p3, p4, p5, p6, p7, p8, p9, p10, p11, p12, p13, p14, p15⟩ := HS.out w6 HG2.out; clear hg6)
          | (go_at_call 20; refine (HC1.out _ (Gr.drewN wr 1)).mono ?_; rintro e w5 ⟨rfl, hg5⟩; have HG1 := hideL ((Gr.drewN wr 1).trans hg5); obtain ⟨p0, p1, p2, p3, p4, p5, p6, p7, p8, p9, p10, p11, p12, p13, p14, p15⟩ := HS.out w5 HG1.out; clear hg5))
        go_wp2
        go_roundw
        case rel => exact ⟨i + 1, by go_num, by omega, HB.out.trans (HG3.out.below.mono HB.out.size)⟩
        case measure => simp [intOf]; omega
      · have h4' : ¬ (i : Int) < T.length := by omega
        go_wp2
        go_ret
        exact ⟨rfl, HB.out⟩
    · have h3' : ¬ (i : Int) < F.length := by omega
      go_wp2
      go_ret
      exact ⟨rfl, HB.out⟩
end Go.Proofs.Ytmljljpldljpjaa

/-
  Merge and the document's Merge answer the same.
-/
namespace Go.Proofs.Ytmljljpldljpjaa
open Go.RowKit
set_option linter.unusedVariables false
set_option linter.unusedSimpArgs false
set_option maxRecDepth 100000
def mgL (C D : List Rs) : List Rs := match mrF C D with | some _ => [] | none => allM C D D.length
def mgA (C D : List Rs) : Int := match mrF C D with | some (a, _) => a | none => 0
def mgX (C D : List Rs) : Int := match mrF C D with | some (_, x) => x | none => 0
theorem mg_mem {C D : List Rs} {r : Rs} (h : r ∈ mgL C D) : r ∈ C ∨ r ∈ D := by
  unfold mgL at h
  rcases hm : mrF C D with _ | ⟨a, x⟩
  · rw [hm] at h
    dsimp only at h
    obtain ⟨h1, h2, _⟩ := mrF_none hm
    have := (merg_perm h1 h2).1.mem_iff.1 h
    unfold mergL at this
    rcases List.mem_append.1 this with h | h
    · exact .inl (List.mem_filter.1 h).1
    · exact .inr (List.mem_filter.1 h).1
  · rw [hm] at h; cases h
/-- what both leave -/
def MeE (w : World) (C D : List Rs) (e : Ending) (w' : World) : Prop := ∃ a k Q, e = .returned (.tuple #[.slice a (mgL C D).length k, .int .i64 (mgA C D), .int .i64 (mgX C D)]) ∧ Q.length = (mgL C D).length ∧ Lr w' a Q ∧ Q.map Rx.toRs = mgL C D ∧ Below w.heap.size w w'
theorem lr_nil (w : World) : Lr w none [] := ⟨(fun o ho => by cases ho), .inl rfl⟩
theorem merge_e (w : World) (a b : Option Addr) (c1 c2 : Nat) (C D : List Rx) (hC : Lr w a C) (hD : Lr w b D) (hs : C.length ≤ 1048576) (hs2 : D.length ≤ 1048576) :
    Calls Try.prog 10 #[.slice a C.length c1, .slice b D.length c2] w fun e w' => MeE w (C.map Rx.toRs) (D.map Rx.toRs) e w' := by
  refine (merge_any w a b C.length D.length c1 c2 C D hC hD rfl rfl hs hs2).mono ?_
  rintro e w' ⟨hb, ⟨p, x, hm, rfl⟩ | ⟨hm, a', c', qs, rfl, ho, hp⟩⟩
  · refine ⟨none, 0, [], ?_, ?_, lr_nil _, ?_, hb⟩
    · simp [mgL, mgA, mgX, hm]
    · simp [mgL, hm]
    · simp [mgL, hm]
  · have e1 := merg_one hm hp
    have e2 : qs.map Rx.toRs = mgL (C.map Rx.toRs) (D.map Rx.toRs) := by rw [e1]; simp [mgL, hm]
    have e3 : qs.length = (mgL (C.map Rx.toRs) (D.map Rx.toRs)).length := by rw [← e2, List.length_map]
    refine ⟨a', c', qs, ?_, e3, ho.lr (fun o h => ?_), e2, hb⟩
    · rw [← e3]; simp [mgA, mgX, hm]
    · have : o.toRs ∈ mgL (C.map Rx.toRs) (D.map Rx.toRs) := by rw [← e2]; exact List.mem_map_of_mem h
      rcases mg_mem this with h | h
      · obtain ⟨p, hp, e⟩ := List.mem_map.1 h
        rw [← e]; exact (hC.each p hp).ok
      · obtain ⟨p, hp, e⟩ := List.mem_map.1 h
        rw [← e]; exact (hD.each p hp).ok
theorem rmerge_e (w : World) (a b : Option Addr) (c1 c2 : Nat) (C D : List Rx) (hC : Lr w a C) (hD : Lr w b D) (hf1 : Frm a C.length c1) (hf2 : Frm b D.length c2) (hs : C.length ≤ 1048576) (hs2 : D.length ≤ 1048576) :
    Calls Try.prog 11 #[.slice a C.length c1, .slice b D.length c2] w fun e w' => MeE w (C.map Rx.toRs) (D.map Rx.toRs) e w' := by
  refine (rmerge_any w a b C.length D.length c1 c2 C D hC hD hf1 hf2 rfl rfl hs hs2).mono ?_
  rintro e w' ⟨hb, ⟨p, x, hm, rfl⟩ | ⟨hm, a', c', qs, rfl, ho, hp⟩⟩
  · refine ⟨none, 0, [], ?_, ?_, lr_nil _, ?_, hb⟩
    · simp [mgL, mgA, mgX, hm]
    · simp [mgL, hm]
    · simp [mgL, hm]
  · have e2 : qs.map Rx.toRs = mgL (C.map Rx.toRs) (D.map Rx.toRs) := by rw [hp]; simp [mgL, hm]
    have e3 : qs.length = (mgL (C.map Rx.toRs) (D.map Rx.toRs)).length := by rw [← e2, List.length_map]
    refine ⟨a', c', qs, ?_, e3, ho, e2, hb⟩
    · rw [← e3]; simp [mgA, mgX, hm]
end Go.Proofs.Ytmljljpldljpjaa

/-
  The walk of CheckMerges.
-/
namespace Go.Proofs.Ytmljljpldljpjaa
open Go.RowKit
set_option linter.unusedVariables false
set_option linter.unusedSimpArgs false
set_option maxRecDepth 100000
theorem mg_len (C D : List Rs) : (mgL C D).length ≤ 64 := by
  unfold mgL
  rcases hm : mrF C D with _ | ⟨a, x⟩
  · obtain ⟨h1, h2, h3⟩ := mrF_none hm
    dsimp only
    rw [(merg_perm h1 h2).1.length_eq]; exact h3
  · exact Nat.zero_le _
set_option maxHeartbeats 4000000 in
theorem num_any (w : World) (x : Int) : Calls Try.prog 12 #[.int .i64 x] w fun e w' => e = .returned (.int .i64 x) ∧ w' = w := by
  go_enter Try.func12, Try.ntmps12
  go_wp2
  go_ret
  exact ⟨rfl, rfl⟩
set_option maxHeartbeats 32000000 in
theorem checkMerges_any (w : World) (a b : Option Addr) (n m c1 c2 : Nat) (F T : List Rx) (hF : Lr w a F) (hT : Lr w b T) (hbF : ∀ o ∈ F, Bare o) (hbT : ∀ o ∈ T, Bare o) (hn : F.length = n) (hm : T.length = m) (hs : n ≤ 1048576) (hs2 : m ≤ 1048576) (hfF : Frm a n c1) (hfT : Frm b m c2) :
    Calls Try.prog 3 #[.slice a n c1, .slice b m c2] w fun e w' => e = .returned (.bool true) ∧ Below w.heap.size w w' := by
  subst hn hm
  have HF := hideL hF
  have HTT := hideL hT
  have HBF := hideL hbF
  have HBT := hideL hbT
  have HFF := hideL hfF
  have HFT := hideL hfT
  clear hF hT hbF hbT hfF hfT
  go_enter Try.func3, Try.ntmps3
  go_wp2_with fail
  refine (own_e w a c1 F HF.out HBF.out hs).mono ?_
  rintro e w1 ⟨a1, k1, A, rfl, hA1, hA2, hA3, hA4, hb1⟩
  have HA := hideL hA3
  have HAE := hideL hA4
  have HAL := hideL hA1
  have HB1 := hideL hb1
  clear hA1 hA2 hA3 hA4 hb1
  go_wp2_with fail
  refine (own_e w1 b c2 T (HTT.out.below HB1.out) HBT.out hs2).mono ?_
  rintro e w2 ⟨a2, k2, B, rfl, hA1, hA2, hA3, hA4, hb2⟩
  have HBB := hideL hA3
  have HBE := hideL hA4
  have HBL := hideL hA1
  have HA2 := hideL (HA.out.below hb2)
  have HB2 := hideL (HB1.out.trans (hb2.mono HB1.out.size))
  clear hA1 hA2 hA3 hA4 hb2 HA HB1
  have HD : Hid (Calls Try.prog 10 #[.slice a1 F.length k1, .slice a2 T.length k2] w2 fun e w' => MeE w2 (F.map Rx.toRs) (T.map Rx.toRs) e w') := by
    have := merge_e w2 a1 a2 k1 k2 A B HA2.out HBB.out (by rw [HAL.out]; exact hs) (by rw [HBL.out]; exact hs2)
    rw [HAE.out, HBE.out, HAL.out, HBL.out] at this
    exact this
  have HRD := hideL (fun W (hW : Below w.heap.size w W) => rmerge_e W a b c1 c2 F T (HF.out.below hW) (HTT.out.below hW) HFF.out HFT.out hs hs2)
  have HML := hideL (mg_len (F.map Rx.toRs) (T.map Rx.toRs))
  unfold MeE at HD HRD
  generalize mgL (F.map Rx.toRs) (T.map Rx.toRs) = R at HD HRD HML
  generalize mgA (F.map Rx.toRs) (T.map Rx.toRs) = p at HD HRD
  generalize mgX (F.map Rx.toRs) (T.map Rx.toRs) = x at HD HRD
  go_wp2_with fail
  refine HD.out.mono ?_
  rintro e w3 ⟨a3, k3, D, rfl, hD1, hD3, hD4, hb3⟩
  have HDD := hideL hD3
  have HDE := hideL hD4
  have HDL := hideL hD1
  have HA3 := hideL (HA2.out.below hb3)
  have HBB3 := hideL (HBB.out.below hb3)
  have HB3 := hideL (HB2.out.trans (hb3.mono HB2.out.size))
  clear hD1 hD3 hD4 hb3 HA2 HB2 HBB HD
  go_wp2_with fail
  refine (HRD.out w3 HB3.out).mono ?_
  rintro e w4 ⟨a4, k4, Q, rfl, hQ1, hQ2, hQ3, hb4⟩
  have HLI := hideL (fun W (h : Gr w4 W) => lists_any W a3 a4 R.length k3 k4 D Q HDL.out (by have := HML.out; omega) ((HDD.out.below hb4).below h.below) (hQ2.below h.below) (by rw [HDE.out, hQ3]))
  have HA4 := hideL (HA3.out.below hb4)
  have HBB4 := hideL (HBB3.out.below hb4)
  have HB4 := hideL (HB3.out.trans (hb4.mono HB3.out.size))
  clear hQ1 hQ2 hQ3 hb4 HA3 HBB3 HB3 HDD HRD
  have HNU : Hid (∀ W, Calls Try.prog 12 #[.int .i64 x] W fun e w' => e = .returned (.int .i64 x) ∧ w' = W) := fun W => num_any W x
  go_wp2_with fail
  refine (HNU.out _).mono ?_
  rintro e w5 ⟨rfl, hw⟩
  have hw := hw.symm
  subst hw
  go_wp2_with fail
  refine (HLI.out _ (Gr.refl _)).mono ?_
  rintro e w5 ⟨rfl, hg5⟩
  have HA5 := hideL (HA4.out.below hg5.below)
  have HBB5 := hideL (HBB4.out.below hg5.below)
  have HB5 := hideL (HB4.out.trans (hg5.below.mono HB4.out.size))
  clear hg5 HA4 HBB4 HB4 HLI
  go_wp2_with fail
  refine (own_e w5 a c1 F (HF.out.below HB5.out) HBF.out hs).mono ?_
  rintro e w6 ⟨a6, k6, A6, rfl, hA1, hA2, hA3, hA4, hb6⟩
  have HLI := hideL (lists_any w6 a1 a6 F.length k1 k6 A A6 HAL.out (by omega) (HA5.out.below hb6) hA3 (by rw [HAE.out, hA4]))
  have HBB6 := hideL (HBB5.out.below hb6)
  have HB6 := hideL (HB5.out.trans (hb6.mono HB5.out.size))
  clear hA1 hA2 hA3 hA4 hb6 HA5 HBB5 HB5
  go_wp2_with fail
  refine HLI.out.mono ?_
  rintro e w7 ⟨rfl, hg7⟩
  have HBB7 := hideL (HBB6.out.below hg7.below)
  have HB7 := hideL (HB6.out.trans (hg7.below.mono HB6.out.size))
  clear hg7 HBB6 HB6 HLI
  go_wp2_with fail
  refine (own_e w7 b c2 T (HTT.out.below HB7.out) HBT.out hs2).mono ?_
  rintro e w8 ⟨a8, k8, A8, rfl, hA1, hA2, hA3, hA4, hb8⟩
  have HLI := hideL (lists_any w8 a2 a8 T.length k2 k8 B A8 HBL.out (by omega) (HBB7.out.below hb8) hA3 (by rw [HBE.out, hA4]))
  have HB8 := hideL (HB7.out.trans (hb8.mono HB7.out.size))
  clear hA1 hA2 hA3 hA4 hb8 HBB7 HB7
  go_wp2_with fail
  refine HLI.out.mono ?_
  rintro e w9 ⟨rfl, hg9⟩
  have HB9 := hideL (HB8.out.trans (hg9.below.mono HB8.out.size))
  clear hg9 HB8 HLI
  go_wp2
  go_ret
  exact ⟨rfl, HB9.out⟩
end Go.Proofs.Ytmljljpldljpjaa

/-
  awake.
-/
namespace Go.Proofs.Ytmljljpldljpjaa
open Go.RowKit
set_option linter.unusedVariables false
set_option linter.unusedSimpArgs false
set_option maxRecDepth 100000
def rA (ea : Option Addr) : Rx := ⟨⟨1, ⟨#[97]⟩, [⟨#[101]⟩], [], ⟨#[]⟩, [], ⟨#[]⟩, false⟩, ea, 1, none, 0, none, 0⟩
def rS (ta : Option Addr) : Rx := ⟨⟨2, ⟨#[115]⟩, [], [⟨⟨#[97]⟩, ⟨#[]⟩, 4636737291354636288⟩], ⟨#[]⟩, [], ⟨#[]⟩, false⟩, none, 0, ta, 1, none, 0⟩
theorem rA_says (ea : Option Addr) : mgL [] [(rA ea).toRs] = [(rA ea).toRs] ∧ mgA [] [(rA ea).toRs] = 0 ∧ mgX [] [(rA ea).toRs] = 0 := by
  have : mrF [] [(rA ea).toRs] = none := by rfl
  unfold mgL mgA mgX
  rw [this]
  exact ⟨rfl, rfl, rfl⟩
theorem rS_says (ta : Option Addr) : lookF (fun _ r => looF [(rS ta).toRs] r) [(rS ta).toRs] = some (0, 1) ∧ astF [(rS ta).toRs] = 1 := by
  exact ⟨rfl, rfl⟩
theorem cel_one {W : World} {B k : Nat} {t : TypeId} {r : List Value} (h : W.heap[B]? = some (.cells r.toArray t (0, 0))) : Cel W (some ⟨B, 0, none⟩) k [r] := by
  refine .inr ⟨B, 0, rfl, fun i r' hi j u hu => ?_⟩
  obtain rfl : i = 0 := by have := (List.getElem?_eq_some_iff.1 hi).1; simp at this; exact this
  simp at hi
  subst hi
  rw [cell_block h]
  simpa using hu
theorem okS_small {l : List UInt8} (h : l.length ≤ 10) : okS ⟨l.toArray⟩ := by unfold okS; show l.toArray.size ≤ _; simp; omega
theorem rA_in {W : World} {g B : Nat} (h1 : W.heap[g]? = some (.cells #[.string ⟨#[101]⟩] 9 (0, 0))) (h2 : W.heap[B]? = some (boxO (rA (some ⟨g, 0, none⟩)))) : Lr W (some ⟨B, 0, none⟩) [rA (some ⟨g, 0, none⟩)] := by
  refine ⟨fun o ho => ?_, cel_one (r := (rA (some ⟨g, 0, none⟩)).row) h2⟩
  obtain rfl := List.mem_singleton.1 ho
  refine ⟨cel_one (r := [.string ⟨#[101]⟩]) h1, .inl rfl, .inl rfl, by show (-9223372036854775808 : Int) ≤ 1 ∧ (1 : Int) ≤ 9223372036854775807; omega, okS_small (l := [97]) (by decide), okS_small (l := []) (by decide), okS_small (l := []) (by decide), fun x hx => ?_, fun x hx => (by cases hx), fun x hx => (by cases hx), Nat.le_of_ble_eq_true rfl, Nat.le_of_ble_eq_true rfl, Nat.le_of_ble_eq_true rfl⟩
  obtain rfl := List.mem_singleton.1 hx
  exact okS_small (l := [101]) (by decide)
theorem rS_in {W : World} {g B : Nat} (h1 : W.heap[g]? = some (.cells #[.string ⟨#[97]⟩, .string ⟨#[]⟩, .float .f64 4636737291354636288] 57 (0, 0))) (h2 : W.heap[B]? = some (boxO (rS (some ⟨g, 0, none⟩)))) : Lr W (some ⟨B, 0, none⟩) [rS (some ⟨g, 0, none⟩)] := by
  refine ⟨fun o ho => ?_, cel_one (r := (rS (some ⟨g, 0, none⟩)).row) h2⟩
  obtain rfl := List.mem_singleton.1 ho
  refine ⟨.inl rfl, cel_one (r := [.string ⟨#[97]⟩, .string ⟨#[]⟩, .float .f64 4636737291354636288]) h1, .inl rfl, by show (-9223372036854775808 : Int) ≤ 2 ∧ (2 : Int) ≤ 9223372036854775807; omega, okS_small (l := [115]) (by decide), okS_small (l := []) (by decide), okS_small (l := []) (by decide), fun x hx => (by cases hx), fun x hx => ?_, fun x hx => (by cases hx), Nat.le_of_ble_eq_true rfl, Nat.le_of_ble_eq_true rfl, Nat.le_of_ble_eq_true rfl⟩
  obtain rfl := List.mem_singleton.1 hx
  exact ⟨okS_small (l := [97]) (by decide), okS_small (l := []) (by decide), by decide⟩
theorem al_size (w : World) (o : Obj) : (w.alloc o).heap.size = w.heap.size + 1 := Array.size_push _
theorem new_at (w : World) (o : Obj) {n : Nat} (h : w.heap.size = n) : (w.alloc o).heap[n]? = some o := by subst h; exact heap_alloc_new w o
theorem rA_lr (w : World) : Lr (((w.alloc (.cells #[.string ⟨#[101]⟩] 9 (0, 0))).alloc (boxO (rA (some ⟨w.heap.size, 0, none⟩)))).alloc (boxO (rA (some ⟨w.heap.size, 0, none⟩)))) (some ⟨w.heap.size + 1 + 1, 0, none⟩) [rA (some ⟨w.heap.size, 0, none⟩)] := by
  refine rA_in ?_ (new_at _ _ (by rw [al_size, al_size]))
  exact (Gr.alloc _ _).below.cells ((Gr.alloc _ _).below.cells (heap_alloc_new w _))
theorem rS_lr (w : World) : Lr ((w.alloc (.cells #[.string ⟨#[97]⟩, .string ⟨#[]⟩, .float .f64 4636737291354636288] 57 (0, 0))).alloc (boxO (rS (some ⟨w.heap.size, 0, none⟩)))) (some ⟨w.heap.size + 1, 0, none⟩) [rS (some ⟨w.heap.size, 0, none⟩)] := by
  refine rS_in ?_ (new_at _ _ (by rw [al_size]))
  exact (Gr.alloc _ _).below.cells (heap_alloc_new w _)
set_option maxHeartbeats 16000000 in
theorem awake_any (w : World) : Calls Try.prog 22 #[] w fun e w' => e = .returned (.bool true) ∧ Below w.heap.size w w' := by
  have HA := hideL (rA_lr w)
  have HG := hideL (((Gr.alloc w (.cells #[.string ⟨#[101]⟩] 9 (0, 0))).trans (Gr.alloc _ (boxO (rA (some ⟨w.heap.size, 0, none⟩))))).trans (Gr.alloc _ (boxO (rA (some ⟨w.heap.size, 0, none⟩)))))
  unfold boxO at HA HG
  obtain ⟨w1, hw1⟩ : ∃ X, (((w.alloc (.cells #[.string ⟨#[101]⟩] 9 (0, 0))).alloc (.cells #[.int .i64 1, .string ⟨#[97]⟩, .slice (some ⟨w.heap.size, 0, none⟩) 1 1, .slice none 0 0, .string ⟨#[]⟩, .slice none 0 0, .string ⟨#[]⟩, .bool false] 52 (0, 0))).alloc (.cells #[.int .i64 1, .string ⟨#[97]⟩, .slice (some ⟨w.heap.size, 0, none⟩) 1 1, .slice none 0 0, .string ⟨#[]⟩, .slice none 0 0, .string ⟨#[]⟩, .bool false] 52 (0, 0))) = X := ⟨_, rfl⟩
  have HA1 : Hid (Lr w1 (some ⟨w.heap.size + 1 + 1, 0, none⟩) [rA (some ⟨w.heap.size, 0, none⟩)]) := by rw [← hw1]; exact HA.out
  have HG1 : Hid (Gr w w1) := by rw [← hw1]; exact HG.out
  have HM : Hid (Calls Try.prog 10 #[.slice none 0 0, .slice (some ⟨w.heap.size + 1 + 1, 0, none⟩) 1 1] w1 fun e w' => ∃ a k, e = .returned (.tuple #[.slice a 1 k, .int .i64 0, .int .i64 0]) ∧ (∃ g off, a = some ⟨g, off, none⟩ ∧ w'.cell? ⟨g, off + 1, none⟩ = some (.string ⟨#[97]⟩)) ∧ Below w1.heap.size w1 w') := by
    have := merge_e w1 none (some ⟨w.heap.size + 1 + 1, 0, none⟩) 0 1 [] [rA (some ⟨w.heap.size, 0, none⟩)] (lr_nil _) HA1.out (Nat.zero_le _) (Nat.le_of_ble_eq_true rfl)
    refine this.mono ?_
    rintro e w' ⟨a, k, Q, rfl, h1, h2, h3, h4⟩
    obtain ⟨r1, r2, r3⟩ := rA_says (some ⟨w.heap.size, 0, none⟩)
    have e1 : mgL (([] : List Rx).map Rx.toRs) ([rA (some ⟨w.heap.size, 0, none⟩)].map Rx.toRs) = [(rA (some ⟨w.heap.size, 0, none⟩)).toRs] := r1
    have e2 : mgA (([] : List Rx).map Rx.toRs) ([rA (some ⟨w.heap.size, 0, none⟩)].map Rx.toRs) = 0 := r2
    have e3 : mgX (([] : List Rx).map Rx.toRs) ([rA (some ⟨w.heap.size, 0, none⟩)].map Rx.toRs) = 0 := r3
    rw [e1] at h1 h3 ⊢
    rw [e2, e3]
    refine ⟨a, k, rfl, ?_, h4⟩
    match Q, h1 with
    | [q], _ =>
      obtain ⟨g, off, ea, _, c1, _⟩ := h2.row.cells (i := 0) (o := q) rfl
      have hq : q.toRs = (rA (some ⟨w.heap.size, 0, none⟩)).toRs := by simpa using h3
      refine ⟨g, off, ea, ?_⟩
      rw [Nat.zero_mul, Nat.add_zero] at c1
      rw [c1, hq]; rfl
  clear HA HG HA1
  go_enter Try.func22, Try.ntmps22
  go_wp2_with fail
  refine HM.out.mono ?_
  rintro e w2 ⟨a2, k2, rfl, ⟨g, off, rfl, c2⟩, hb2⟩
  have HB2 := hideL (HG1.out.below.trans (hb2.mono HG1.out.below.size))
  clear hb2 HM hw1
  have HS := hideL (rS_lr w2)
  have HG3 := hideL ((Gr.alloc w2 (.cells #[.string ⟨#[97]⟩, .string ⟨#[]⟩, .float .f64 4636737291354636288] 57 (0, 0))).trans (Gr.alloc _ (boxO (rS (some ⟨w2.heap.size, 0, none⟩)))))
  unfold boxO at HS HG3
  obtain ⟨w3, hw3⟩ : ∃ X, ((w2.alloc (.cells #[.string ⟨#[97]⟩, .string ⟨#[]⟩, .float .f64 4636737291354636288] 57 (0, 0))).alloc (.cells #[.int .i64 2, .string ⟨#[115]⟩, .slice none 0 0, .slice (some ⟨w2.heap.size, 0, none⟩) 1 1, .string ⟨#[]⟩, .slice none 0 0, .string ⟨#[]⟩, .bool false] 52 (0, 0))) = X := ⟨_, rfl⟩
  have HS3 : Hid (Lr w3 (some ⟨w2.heap.size + 1, 0, none⟩) [rS (some ⟨w2.heap.size, 0, none⟩)]) := by rw [← hw3]; exact HS.out
  have HGR : Hid (Gr w2 w3) := by rw [← hw3]; exact HG3.out
  have HC : Hid (Calls Try.prog 14 #[.slice (some ⟨w2.heap.size + 1, 0, none⟩) 1 1] w3 fun e w' => ChB w3 (0, 1, 140) e w') := by
    obtain ⟨r1, r2⟩ := rS_says (some ⟨w2.heap.size, 0, none⟩)
    refine check_bad w3 _ 1 1 (0, 1, 140) (by decide) (fun W hW => ?_)
    have := faultOf_any W (some ⟨w2.heap.size + 1, 0, none⟩) 1 1 [rS (some ⟨w2.heap.size, 0, none⟩)] (some (0, 1)) none none none (HS3.out.below hW) rfl (by decide)
      (fun _ _ W' hW' => by
        have := dangling_any W' (some ⟨w2.heap.size + 1, 0, none⟩) 1 1 [rS (some ⟨w2.heap.size, 0, none⟩)] ((HS3.out.below hW).below hW') rfl (by decide)
        rw [show lookF (fun _ r => looF ([rS (some ⟨w2.heap.size, 0, none⟩)].map Rx.toRs) r) ([rS (some ⟨w2.heap.size, 0, none⟩)].map Rx.toRs) = some (0, 1) from r1] at this
        exact this)
      (fun _ _ h => by cases h) (fun _ _ h => by cases h) (fun _ _ h => by cases h)
    have e : fltF ([rS (some ⟨w2.heap.size, 0, none⟩)].map Rx.toRs) (some (0, 1)) none none none = (0, 1, 140) := by
      unfold fltF
      rw [if_neg (fun h => h r2), if_neg (by show ¬ 64 < 1; decide)]
      rfl
    rw [e] at this
    exact this
  unfold ChB fltV at HC
  dsimp only at HC
  clear HS HG3
  go_wp2_with fail
  refine HC.out.mono ?_
  rintro e w4 ⟨rfl, hb4⟩
  replace c2 := cell_of_below hb4 (HGR.out.cell c2)
  have HB3 := hideL (HB2.out.trans (HGR.out.below.mono HB2.out.size))
  have HB4 := hideL (HB3.out.trans (hb4.mono HB3.out.size))
  clear hb4 HC hw3
  have c2' := fun X => (alloc_cell w4 X (World.block_lt_of_cell? w4 _ c2)).trans c2
  go_wp2_with fail
  go_ret
  exact ⟨rfl, HB4.out.trans ((Gr.alloc _ _).below.mono HB4.out.size)⟩
end Go.Proofs.Ytmljljpldljpjaa
