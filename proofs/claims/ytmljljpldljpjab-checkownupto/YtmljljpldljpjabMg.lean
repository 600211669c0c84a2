/-
  merged.
-/
import Derived.Test.YtmljljpldljpjabWg
namespace Go.Proofs.Ytmljljpldljpjab
open Go.RowKit
set_option linter.unusedVariables false
set_option linter.unusedSimpArgs false
set_option maxRecDepth 100000
theorem filter_step {l : List Rs} {i : Nat} {r : Rs} (p : Rs → Bool) (h : l[i]? = some r) : (l.take (i + 1)).filter p = (l.take i).filter p ++ (if p r = true then [r] else []) := by
  rw [take_snoc h, List.filter_append]
  by_cases hp : p r = true <;> simp [hp]
set_option maxHeartbeats 32000000 in
theorem merged_any (w : World) (a b : Option Addr) (n m c1 c2 : Nat) (C D : List Rx) (hC : Lr w a C) (hD : Lr w b D) (hn : C.length = n) (hm : D.length = m) (hs : n ≤ 1048576) (hs2 : m ≤ 1048576) :
    Calls Try.prog 17 #[.slice a n c1, .slice b m c2] w fun e w' => ∃ v os, e = .returned v ∧ Gl w w' v os ∧ os.map Rx.toRs = mergL (C.map Rx.toRs) (D.map Rx.toRs) := by
  have HC := hideL hC
  have HD := hideL hD
  have HN := hideL hn
  have HM := hideL hm
  clear hC hD hn hm
  obtain ⟨i52, hi52, hx0, hx1, hx2⟩ := info_parts Try.info34
  go_enter Try.func17, Try.ntmps17
  go_wp2_with fail
  refine (firsts_any w b m c2 D HD.out HM.out (by omega)).mono ?_
  rintro e w1 ⟨rfl, hm1, hb1⟩
  have HM1 := hideL hm1
  have HB1 := hideL hb1
  clear hm1 hb1
  go_wp2_with fail
  go_loopw [6, 17] (fun v t wr => ∃ (i : Nat) (os : List Rx), t = .int .i64 i ∧ i ≤ n ∧ Gl w wr v os ∧ os.map Rx.toRs = ((C.map Rx.toRs).take i).filter (fun r => (firstsF (D.map Rx.toRs) r.key).isNone) ∧ Mp wr w.heap.size m (firstsF (D.map Rx.toRs))) (fun _ t _ => n - (intOf t).toNat)
  case atStart => exact ⟨0, [], rfl, by omega, Gl.nil w HB1.out, rfl, HM1.out⟩
  case round =>
    clear HM1 HB1
    obtain ⟨i, os, rfl, hi, hgl, hos, hma⟩ := hrel
    have i0 : (0 : Int) ≤ i := by omega
    have hol : os.length ≤ i := by
      have := congrArg List.length hos
      have h2 := List.length_filter_le (fun r => (firstsF (D.map Rx.toRs) r.key).isNone) ((C.map Rx.toRs).take i)
      simp at this h2; omega
    obtain ⟨va, vc, rfl, _, hvc, hvm⟩ := own_form hgl.row
    have HGL := hideL hgl
    have HOS := hideL hos
    have HMA := hideL hma
    clear hgl hos hma
    by_cases h3 : i < n
    · have h3' : (i : Int) < n := by omega
      rcases hki : C[i]? with _ | o
      · have := List.getElem?_eq_none_iff.1 hki; have := HN.out; omega
      have HRO := hideL (HC.out.each o (List.mem_of_getElem? hki))
      have HK := hideL HRO.out.ok.key
      obtain ⟨g, off, rfl, d0, d1, d2, d3, d4, d5, d6, d7⟩ := (HC.out.row.below HGL.out.bel).cells hki
      have HST : Hid (((C.map Rx.toRs).take (i + 1)).filter (fun r => (firstsF (D.map Rx.toRs) r.key).isNone) = ((C.map Rx.toRs).take i).filter (fun r => (firstsF (D.map Rx.toRs) r.key).isNone) ++ (if (firstsF (D.map Rx.toRs) o.toRs.key).isNone = true then [o.toRs] else [])) := filter_step _ (by simp [hki])
      clear hki
      go_wp2_with fail
      refine (keyOf_any _ o).mono ?_
      rintro e w3 ⟨rfl, hg3⟩
      have HG3 := hideL ((Gr.alloc wr _).trans hg3)
      have HX3 := hideL (show w3.heap[wr.heap.size]? = some (boxO o) from hg3.below.cells (heap_alloc_new wr _))
      clear hg3 d0 d1 d2 d3 d4 d5 d6 d7
      obtain ⟨B, hB⟩ : ∃ B, wr.heap.size = B := ⟨_, rfl⟩
      rw [hB] at HX3 ⊢
      clear hB
      unfold keyV Rs.key
      dsimp only
      have HGL3 := hideL (HGL.out.below HG3.out.below)
      have HMA3 := hideL (HMA.out.below HG3.out.below)
      obtain ⟨e0, e1, e2, e3, e4, e5, e6, e7⟩ := box8 HX3.out
      clear HGL HMA HG3
      rcases lookC HMA3.out HK.out with ⟨f, hf⟩ | hf
      · have hlk : (Instr.lookup 50 (.map (some w.heap.size)) (.agg #[.int .i64 o.kd, .string o.nm]) true).run Try.prog w3 = .ok (.tuple #[.int .i64 f, .bool true]) w3 := (HMA3.out.look HK.out true).1 f hf
        have HN1 : Hid (os.map Rx.toRs = ((C.map Rx.toRs).take (i + 1)).filter (fun r => (firstsF (D.map Rx.toRs) r.key).isNone)) := by
          unfold Hid
          rw [HST.out, HOS.out, show firstsF (D.map Rx.toRs) o.toRs.key = some f from hf]; simp
        clear hf
        go_wp2_with fail
        go_roundw
        case rel => exact ⟨i + 1, os, by go_num, by omega, HGL3.out, HN1.out, HMA3.out⟩
        case measure => simp [intOf]; omega
      · have hlk : (Instr.lookup 50 (.map (some w.heap.size)) (.agg #[.int .i64 o.kd, .string o.nm]) true).run Try.prog w3 = .ok (.tuple #[.int .i64 0, .bool false]) w3 := (HMA3.out.look HK.out true).2 hf
        have HN1 : Hid ((os ++ [o]).map Rx.toRs = ((C.map Rx.toRs).take (i + 1)).filter (fun r => (firstsF (D.map Rx.toRs) r.key).isNone)) := by
          unfold Hid
          rw [HST.out, List.map_append, HOS.out, show firstsF (D.map Rx.toRs) o.toRs.key = none from hf]; simp
        clear hf
        have HOD : Hid ((w3.alloc (Obj.cells #[.int .i64 o.kd, .string o.nm, .slice o.ea o.eps.length o.ec, .slice o.ta o.tgs.length o.tc, .string o.host, .slice o.ra o.rus.length o.rc, .string o.route, .bool o.del] 34)).ownsRow w.heap.size 34 8 (.slice va os.length vc) os.length (rowsOf Rx.row os)) := HGL3.out.row.alloc _
        have HND : Hid (∀ j u, o.row[j]? = some u → (w3.alloc (Obj.cells #[.int .i64 o.kd, .string o.nm, .slice o.ea o.eps.length o.ec, .slice o.ta o.tgs.length o.tc, .string o.host, .slice o.ra o.rus.length o.rc, .string o.route, .bool o.del] 34)).cell? ((⟨w3.heap.size, 0, none⟩ : Addr).add j) = some u) := World.news_of_block (w := (w3.alloc (Obj.cells #[.int .i64 o.kd, .string o.nm, .slice o.ea o.eps.length o.ec, .slice o.ta o.tgs.length o.tc, .string o.host, .slice o.ra o.rus.length o.rc, .string o.route, .bool o.del] 34))) (Go.heap_alloc_new w3 _)
        have hszD : w.heap.size ≤ (w3.alloc (Obj.cells #[.int .i64 o.kd, .string o.nm, .slice o.ea o.eps.length o.ec, .slice o.ta o.tgs.length o.tc, .string o.host, .slice o.ra o.rus.length o.rc, .string o.route, .bool o.del] 34)).heap.size := Nat.le_trans HGL3.out.bel.size (by simp)
        have hlm : os.length + 1 ≤ maxLen := by unfold maxLen; omega
        have hlb : (os.length + 1) * 136 ≤ 140737488355328 := by omega
        go_wp2_with (at_builtin; refine wpList_append_at _ rfl (.tmp 30) (.tmp 32) 22 rfl w.heap.size 34 i52 _ 8 136 Try.underlying22 hi52 hx0 hx1 hx2 rfl (by decide) (.slice va os.length vc) os.length (rowsOf Rx.row os) rfl HOD.out ⟨w3.heap.size, 0, none⟩ 1 1 o.row rfl rfl HND.out (rx_one _) hlm hlb hszD ?_; intro v7 w7 hown7 hgrow7 hat7; have HG7 := hideL (HGL3.out.more (mm := 0) (p := o) hown7 hgrow7 HRO.out); have HA7 := hideL (Mp.app (mm := 0) HGL3.out.row hgrow7 HMA3.out); clear hown7 hgrow7 hat7)
        go_roundw
        case rel => exact ⟨i + 1, os ++ [o], by go_num, by omega, HG7.out, HN1.out, HA7.out⟩
        case measure => simp [intOf]; omega
    · have h3' : ¬ (i : Int) < n := by omega
      obtain rfl : i = n := by omega
      have HOC : Hid (os.map Rx.toRs = (C.map Rx.toRs).filter (fun r => (firstsF (D.map Rx.toRs) r.key).isNone)) := by
        unfold Hid
        rw [HOS.out, List.take_of_length_le (by simp; have := HN.out; omega)]
      go_wp2_with fail
      go_loopw [6, 37] (fun v t wr => ∃ (j : Nat) (os : List Rx), t = .int .i64 j ∧ j ≤ m ∧ Gl w wr v os ∧ os.map Rx.toRs = (C.map Rx.toRs).filter (fun r => (firstsF (D.map Rx.toRs) r.key).isNone) ++ ((D.map Rx.toRs).take j).filter (fun r => !r.del) ∧ os.length ≤ i + j) (fun _ t _ => m - (intOf t).toNat)
      case atStart => exact ⟨0, os, rfl, by omega, HGL.out, by rw [HOC.out]; simp, by omega⟩
      case round =>
        clear HGL HMA HOS HOC hvc hvm hol
        obtain ⟨j, os, rfl, hj, hgl, hos, hol⟩ := hrel
        have j0 : (0 : Int) ≤ j := by omega
        obtain ⟨va, vc, rfl, _, hvc, hvm⟩ := own_form hgl.row
        have HGL := hideL hgl
        have HOS := hideL hos
        clear hgl hos
        by_cases h4 : j < m
        · have h4' : (j : Int) < m := by omega
          rcases hki : D[j]? with _ | o
          · have := List.getElem?_eq_none_iff.1 hki; have := HM.out; omega
          have HRO := hideL (HD.out.each o (List.mem_of_getElem? hki))
          obtain ⟨g, off, rfl, d0, d1, d2, d3, d4, d5, d6, d7⟩ := (HD.out.row.below HGL.out.bel).cells hki
          have HST : Hid (((D.map Rx.toRs).take (j + 1)).filter (fun r => !r.del) = ((D.map Rx.toRs).take j).filter (fun r => !r.del) ++ (if (!o.toRs.del) = true then [o.toRs] else [])) := filter_step _ (by simp [hki])
          clear hki
          obtain ⟨⟨kd, nm, eps, tgs, host, rus, route, del⟩, ea, ec, ta, tc, ra, rc⟩ := o
          dsimp only at d0 d1 d2 d3 d4 d5 d6 d7
          cases del
          · have HN1 : Hid ((os ++ [(⟨⟨kd, nm, eps, tgs, host, rus, route, false⟩, ea, ec, ta, tc, ra, rc⟩ : Rx)]).map Rx.toRs = (C.map Rx.toRs).filter (fun r => (firstsF (D.map Rx.toRs) r.key).isNone) ++ ((D.map Rx.toRs).take (j + 1)).filter (fun r => !r.del)) := by
              unfold Hid
              rw [HST.out, List.map_append, HOS.out]; simp
            have HGL3 := hideL (HGL.out.below (Gr.alloc wr (Obj.cells #[.int .i64 kd, .string nm, .slice ea eps.length ec, .slice ta tgs.length tc, .string host, .slice ra rus.length rc, .string route, .bool false] 34)).below)
            have HOD : Hid (((wr.alloc (Obj.cells #[.int .i64 kd, .string nm, .slice ea eps.length ec, .slice ta tgs.length tc, .string host, .slice ra rus.length rc, .string route, .bool false] 34)).alloc (Obj.cells #[.int .i64 kd, .string nm, .slice ea eps.length ec, .slice ta tgs.length tc, .string host, .slice ra rus.length rc, .string route, .bool false] 34)).ownsRow w.heap.size 34 8 (.slice va os.length vc) os.length (rowsOf Rx.row os)) := HGL3.out.row.alloc _
            have HND : Hid (∀ j u, (⟨⟨kd, nm, eps, tgs, host, rus, route, false⟩, ea, ec, ta, tc, ra, rc⟩ : Rx).row[j]? = some u → ((wr.alloc (Obj.cells #[.int .i64 kd, .string nm, .slice ea eps.length ec, .slice ta tgs.length tc, .string host, .slice ra rus.length rc, .string route, .bool false] 34)).alloc (Obj.cells #[.int .i64 kd, .string nm, .slice ea eps.length ec, .slice ta tgs.length tc, .string host, .slice ra rus.length rc, .string route, .bool false] 34)).cell? ((⟨wr.heap.size + 1, 0, none⟩ : Addr).add j) = some u) := World.news_of_block (w := ((wr.alloc _).alloc _)) (blk2 wr _ _)
            have hszD : w.heap.size ≤ ((wr.alloc (Obj.cells #[.int .i64 kd, .string nm, .slice ea eps.length ec, .slice ta tgs.length tc, .string host, .slice ra rus.length rc, .string route, .bool false] 34)).alloc (Obj.cells #[.int .i64 kd, .string nm, .slice ea eps.length ec, .slice ta tgs.length tc, .string host, .slice ra rus.length rc, .string route, .bool false] 34)).heap.size := Nat.le_trans HGL3.out.bel.size (by simp)
            have hlm : os.length + 1 ≤ maxLen := by unfold maxLen; omega
            have hlb : (os.length + 1) * 136 ≤ 140737488355328 := by omega
            go_wp2_with (at_builtin; refine wpList_append_at _ rfl (.tmp 44) (.tmp 46) 22 rfl w.heap.size 34 i52 _ 8 136 Try.underlying22 hi52 hx0 hx1 hx2 rfl (by decide) (.slice va os.length vc) os.length (rowsOf Rx.row os) rfl HOD.out ⟨wr.heap.size + 1, 0, none⟩ 1 1 (⟨⟨kd, nm, eps, tgs, host, rus, route, false⟩, ea, ec, ta, tc, ra, rc⟩ : Rx).row rfl rfl HND.out (rx_one _) hlm hlb hszD ?_; intro v7 w7 hown7 hgrow7 hat7; have HG7 := hideL (HGL3.out.more (mm := 0) (p := (⟨⟨kd, nm, eps, tgs, host, rus, route, false⟩, ea, ec, ta, tc, ra, rc⟩ : Rx)) hown7 hgrow7 HRO.out); clear hown7 hgrow7 hat7)
            go_roundw
            case rel => exact ⟨j + 1, os ++ [(⟨⟨kd, nm, eps, tgs, host, rus, route, false⟩, ea, ec, ta, tc, ra, rc⟩ : Rx)], by go_num, by omega, HG7.out, HN1.out, by simp; omega⟩
            case measure => simp [intOf]; omega
          · have HN1 : Hid (os.map Rx.toRs = (C.map Rx.toRs).filter (fun r => (firstsF (D.map Rx.toRs) r.key).isNone) ++ ((D.map Rx.toRs).take (j + 1)).filter (fun r => !r.del)) := by
              unfold Hid
              rw [HST.out, HOS.out]; simp
            obtain ⟨w3, hw3⟩ : ∃ X, wr.alloc (.cells #[.int .i64 kd, .string nm, .slice ea eps.length ec, .slice ta tgs.length tc, .string host, .slice ra rus.length rc, .string route, .bool true] 34) = X := ⟨_, rfl⟩
            have HG3 : Hid (Gr wr w3) := by rw [← hw3]; exact Gr.alloc _ _
            have HX3 : Hid (w3.heap[wr.heap.size]? = some (boxO (⟨⟨kd, nm, eps, tgs, host, rus, route, true⟩, ea, ec, ta, tc, ra, rc⟩ : Rx))) := by rw [← hw3]; exact heap_alloc_new wr _
            have HGL3 := hideL (HGL.out.below HG3.out.below)
            obtain ⟨e0, e1, e2, e3, e4, e5, e6, e7⟩ := box8 HX3.out
            dsimp only at e0 e1 e2 e3 e4 e5 e6 e7
            go_wp2_with fail
            go_roundw
            case rel => exact ⟨j + 1, os, by go_num, by omega, HGL3.out, HN1.out, by omega⟩
            case measure => simp [intOf]; omega
        · have h4' : ¬ (j : Int) < m := by omega
          obtain rfl : j = m := by omega
          go_wp2
          go_ret
          refine ⟨_, rfl, os, HGL.out, ?_⟩
          rw [HOS.out, List.take_of_length_le (by simp; have := HM.out; omega)]
          rfl
end Go.Proofs.Ytmljljpldljpjab
