/-
  Diff.
-/
import Derived.Test.YtmljljpldljpjabDm
import Derived.Test.YtmljljpldljpjabSb
import Derived.Deep.QuietTactic
namespace Go.Proofs.Ytmljljpldljpjab
open Go.RowKit
set_option linter.unusedVariables false
set_option linter.unusedSimpArgs false
set_option maxRecDepth 100000
theorem Mp.app {w w3 : World} {base m mm : Nat} {e : TypeId} {sz : Nat} {v : Value} {xs : List Value} {ob : Obj} (h : w.ownsRow base e sz v m xs) (hg : ((w.alloc ob).drewN mm).grownBy w3 v.ownBlock) {b N : Nat} {f : Int × ByteArray → Option Nat} (hm : Mp w b N f) : Mp w3 b N f := by
  refine hm.keep ?_
  have hk := hm.lt
  refine Eq.trans (hg.block b (by simp; omega) (fun e' => ?_)) (Below.heap_alloc w ob b hk)
  obtain ⟨c1, hc1⟩ := own_cells h b e'.symm
  obtain ⟨D, ⟨es, clock, h2, rest⟩, h3⟩ := hm.ex
  rw [hc1] at h2
  cases h2
def delX (o : Rx) : Rx := ⟨delR o.toRs, none, 0, none, 0, none, 0⟩
theorem delX_rin {w : World} {o : Rx} (h : Rin w o) : Rin w (delX o) where
  es := .inl rfl
  ts := .inl rfl
  rs := .inl rfl
  k1 := h.k1
  n1 := h.n1
  n2 := by show (0 : Nat) ≤ 1048576; decide
  n3 := by show (0 : Nat) ≤ 1048576; decide
  se := fun s hs => by cases hs
  st := fun s hs => by cases hs
  sr := fun s hs => by cases hs
  le := Nat.zero_le _
  lt := Nat.zero_le _
  lr := Nat.zero_le _
theorem firstsF_some {l : List Rs} {i : Nat} {r : Rs} (h : l[i]? = some r) : ∃ j q, firstsF l r.key = some j ∧ j ≤ i ∧ l[j]? = some q := by
  unfold firstsF
  rcases hf : l.findIdx? (fun x => decide (x.key = r.key)) with _ | j
  · rw [List.findIdx?_eq_none_iff] at hf
    have := hf r (List.mem_of_getElem? h)
    simp at this
  · have h2 := List.findIdx?_eq_some_iff_getElem.1 hf
    obtain ⟨hj, h3, h4⟩ := h2
    refine ⟨j, l[j], hf, ?_, List.getElem?_eq_getElem _⟩
    by_cases hij : j ≤ i
    · exact hij
    · have := h4 i (by omega)
      have e := (List.getElem?_eq_some_iff.1 h).2
      rw [e] at this
      simp at this
theorem firstsF_in {l : List Rx} {k : Int × ByteArray} {f : Nat} (h : firstsF (l.map Rx.toRs) k = some f) : ∃ x, l[f]? = some x ∧ x.key = k := by
  unfold firstsF at h
  obtain ⟨hj, h3, _⟩ := List.findIdx?_eq_some_iff_getElem.1 h
  have hl : f < l.length := by simpa using hj
  refine ⟨l[f], List.getElem?_eq_getElem _, ?_⟩
  simpa using h3
theorem key_cells (W : World) (kd : Int) (nm : ByteArray) : (W.alloc (.cells #[.int .i64 kd, .string nm] 53 (0, 0))).cell? ⟨W.heap.size, 0, none⟩ = some (.int .i64 kd) ∧ (W.alloc (.cells #[.int .i64 kd, .string nm] 53 (0, 0))).cell? ⟨W.heap.size, 1, none⟩ = some (.string nm) := ⟨new2 W _ _ 53 0 _ rfl, new2 W _ _ 53 1 _ rfl⟩
set_option maxHeartbeats 32000000 in
theorem diff_any (hnone : ∀ (W : World) (B blk : Nat), Calls Try.prog 30 #[.slice (some ⟨blk, 0, none⟩) 0 0, .func (.func 31) #[] #[.pointer (some ⟨B, 0, none⟩)]] W fun e w' => e = .returned (.tuple #[]) ∧ w' = W)
    (sb : Rs → Rs → Bool) (hsb : ∀ a b, sb a b = true ↔ SameC a b)
    (w : World) (a b : Option Addr) (n m c1 c2 : Nat) (F T : List Rx) (hF : Lr w a F) (hT : Lr w b T) (hn : F.length = n) (hm : T.length = m) (hs : n ≤ 1048576) (hs2 : m ≤ 1048576) :
    Calls Try.prog 7 #[.slice a n c1, .slice b m c2] w fun e w' => ∃ v qs, e = .returned v ∧ Ol w' w.heap.size v qs ∧ qs.map Rx.toRs = foldP (delsL (F.map Rx.toRs) (T.map Rx.toRs) n ++ newsL sb (F.map Rx.toRs) (T.map Rx.toRs) m) ∧ Below w.heap.size w w' := by
  have HF := hideL hF
  have HTT := hideL hT
  have HN := hideL hn
  have HM := hideL hm
  have H0 := hideL hnone
  have HSB := hideL hsb
  clear hF hT hn hm hnone hsb
  obtain ⟨i52, hi52, hx0, hx1, hx2⟩ := info_parts Try.info34
  go_enter Try.func7, Try.ntmps7
  go_wp2_with fail
  refine (firsts_any w a n c1 F HF.out HN.out (by omega)).mono ?_
  rintro e w1 ⟨rfl, hm1, hb1⟩
  have HM1 := hideL hm1
  have HB1 := hideL hb1
  clear hm1 hb1
  go_wp2_with fail
  refine (firsts_any w1 b m c2 T (HTT.out.below HB1.out) HM.out (by omega)).mono ?_
  rintro e w2 ⟨rfl, hm2, hb2⟩
  have HM2 := hideL hm2
  have HM12 := hideL (HM1.out.below hb2)
  have HB2 := hideL (HB1.out.trans (hb2.mono HB1.out.size))
  clear hm2 hb2 HM1
  obtain ⟨P, hP⟩ : ∃ P, w1.heap.size = P := ⟨_, rfl⟩
  rw [hP] at HM2 ⊢
  clear hP HB1
  go_wp2_with fail
  go_loopw [7, 24] (fun v t wr => ∃ (i : Nat) (os : List Rx), t = .int .i64 i ∧ i ≤ n ∧ Gl w wr v os ∧ os.map Rx.toRs = delsL (F.map Rx.toRs) (T.map Rx.toRs) i ∧ Mp wr w.heap.size n (firstsF (F.map Rx.toRs)) ∧ Mp wr P m (firstsF (T.map Rx.toRs))) (fun _ t _ => n - (intOf t).toNat)
  case atStart => exact ⟨0, [], rfl, by omega, Gl.nil w HB2.out, rfl, HM12.out, HM2.out⟩
  case round =>
    clear HM2 HM12 HB2
    obtain ⟨i, os, rfl, hi, hgl, hos, hma, hmb⟩ := hrel
    have i0 : (0 : Int) ≤ i := by omega
    have hol : os.length ≤ i := by
      have := congrArg List.length hos
      have h2 := delsL_len (F.map Rx.toRs) (T.map Rx.toRs) i
      simp at this; omega
    obtain ⟨va, vc, rfl, _, hvc, hvm⟩ := own_form hgl.row
    have HGL := hideL hgl
    have HOS := hideL hos
    have HMA := hideL hma
    have HMB := hideL hmb
    clear hgl hos hma hmb
    by_cases h3 : i < n
    · have h3' : (i : Int) < n := by omega
      rcases hki : F[i]? with _ | o
      · have := List.getElem?_eq_none_iff.1 hki; have := HN.out; omega
      have HRO := hideL (HF.out.each o (List.mem_of_getElem? hki))
      have HK := hideL HRO.out.ok.key
      obtain ⟨g, off, rfl, d0, d1, d2, d3, d4, d5, d6, d7⟩ := (HF.out.row.below HGL.out.bel).cells hki
      have HST : Hid (delsL (F.map Rx.toRs) (T.map Rx.toRs) (i + 1) = delsL (F.map Rx.toRs) (T.map Rx.toRs) i ++ (if goneB (F.map Rx.toRs) (T.map Rx.toRs) i o.toRs = true then [delR o.toRs] else [])) := delsL_step (by simp [hki])
      have HFI : Hid ((F.map Rx.toRs)[i]? = some o.toRs) := by unfold Hid; simp [hki]
      clear hki
      go_wp2_with fail
      refine (keyOf_any _ o).mono ?_
      rintro e w3 ⟨rfl, hg3⟩
      have HG3 := hideL ((Gr.alloc wr _).trans hg3)
      have HX3 := hideL (show w3.heap[wr.heap.size]? = some (boxO o) from hg3.below.cells (heap_alloc_new wr _))
      clear hg3 d0 d1 d2 d3 d4 d5 d6 d7
      obtain ⟨B, hB⟩ : ∃ B, wr.heap.size = B := ⟨_, rfl⟩
      rw [hB] at HX3 ⊢
      unfold keyV Rs.key
      dsimp only
      have HGL3 := hideL (HGL.out.below HG3.out.below)
      have HMA3 := hideL (HMA.out.below HG3.out.below)
      have HMB3 := hideL (HMB.out.below HG3.out.below)
      clear HGL HMA HMB HG3 hB
      have HB3 : Hid (w3.heap.size < (w3.alloc (.cells #[.int .i64 o.kd, .string o.nm] 53 (0, 0))).heap.size) := by unfold Hid; simp
      have HGA := hideL (Gr.alloc w3 (.cells #[.int .i64 o.kd, .string o.nm] 53 (0, 0)))
      obtain ⟨q0, q1⟩ := key_cells w3 o.kd o.nm
      obtain ⟨w4, hw4⟩ : ∃ X, w3.alloc (.cells #[.int .i64 o.kd, .string o.nm] 53 (0, 0)) = X := ⟨_, rfl⟩
      rw [hw4] at HGA q0 q1
      have HGL4 := hideL (HGL3.out.below HGA.out.below)
      have HMA4 := hideL (HMA3.out.below HGA.out.below)
      have HMB4 := hideL (HMB3.out.below HGA.out.below)
      obtain ⟨e0, e1, e2, e3, e4, e5, e6, e7⟩ := box8 (HGA.out.below.cells HX3.out)
      clear HGL3 HMA3 HMB3 HX3 HB3 HGA
      have HKI : Hid ((F.map Rx.toRs)[i]? = some o.toRs) := HFI.out
      rcases lookC HMB4.out HK.out with ⟨j, hj⟩ | hj
      · have hlk : (Instr.lookup 50 (.map (some P)) (.agg #[.int .i64 o.kd, .string o.nm]) true).run Try.prog w4 = .ok (.tuple #[.int .i64 j, .bool true]) w4 := (HMB4.out.look HK.out true).1 j hj
        have HG : Hid (goneB (F.map Rx.toRs) (T.map Rx.toRs) i o.toRs = false) := by unfold Hid goneB; simp [show firstsF (T.map Rx.toRs) o.toRs.key = some j from hj]
        clear hj
        go_wp2_with fail
        go_roundw
        case rel =>
          refine ⟨i + 1, os, by go_num, by omega, ?_, ?_, HMA4.out, HMB4.out⟩
          · exact HGL4.out
          · rw [HST.out, HG.out, HOS.out]; simp
        case measure => simp [intOf]; omega
      · have hlk : (Instr.lookup 50 (.map (some P)) (.agg #[.int .i64 o.kd, .string o.nm]) true).run Try.prog w4 = .ok (.tuple #[.int .i64 0, .bool false]) w4 := (HMB4.out.look HK.out true).2 hj
        obtain ⟨f, q, hf, hfi, _⟩ := firstsF_some HKI.out
        have hlf : (Instr.lookup 50 (.map (some w.heap.size)) (.agg #[.int .i64 o.kd, .string o.nm]) false).run Try.prog w4 = .ok (.int .i64 f) w4 := (HMA4.out.look HK.out false).1 f hf
        by_cases hfe : f = i
        · have HG : Hid (goneB (F.map Rx.toRs) (T.map Rx.toRs) i o.toRs = true) := by unfold Hid goneB; simp [show firstsF (T.map Rx.toRs) o.toRs.key = none from hj, hf, hfe]
          subst hfe
          clear hj hf
          have HOD : Hid ((w4.alloc (Obj.cells #[.int .i64 o.kd, .string o.nm, .slice none 0 0, .slice none 0 0, .string ⟨#[]⟩, .slice none 0 0, .string ⟨#[]⟩, .bool true] 34)).ownsRow w.heap.size 34 8 (.slice va os.length vc) os.length (rowsOf Rx.row os)) := HGL4.out.row.alloc _
          have HND : Hid (∀ j u, (delX o).row[j]? = some u → (w4.alloc (Obj.cells #[.int .i64 o.kd, .string o.nm, .slice none 0 0, .slice none 0 0, .string ⟨#[]⟩, .slice none 0 0, .string ⟨#[]⟩, .bool true] 34)).cell? ((⟨w4.heap.size, 0, none⟩ : Addr).add j) = some u) := World.news_of_block (w := (w4.alloc (Obj.cells #[.int .i64 o.kd, .string o.nm, .slice none 0 0, .slice none 0 0, .string ⟨#[]⟩, .slice none 0 0, .string ⟨#[]⟩, .bool true] 34))) (Go.heap_alloc_new w4 _)
          have hszD : w.heap.size ≤ (w4.alloc (Obj.cells #[.int .i64 o.kd, .string o.nm, .slice none 0 0, .slice none 0 0, .string ⟨#[]⟩, .slice none 0 0, .string ⟨#[]⟩, .bool true] 34)).heap.size := Nat.le_trans HGL4.out.bel.size (by simp)
          have hlm : os.length + 1 ≤ maxLen := by unfold maxLen; omega
          have hlb : (os.length + 1) * 136 ≤ 140737488355328 := by omega
          go_wp2_with (at_builtin; refine wpList_append_at _ rfl (.tmp 46) (.tmp 52) 22 rfl w.heap.size 34 i52 _ 8 136 Try.underlying22 hi52 hx0 hx1 hx2 rfl (by decide) (.slice va os.length vc) os.length (rowsOf Rx.row os) rfl HOD.out ⟨w4.heap.size, 0, none⟩ 1 1 (delX o).row rfl rfl HND.out (rx_one _) hlm hlb hszD ?_; intro v7 w7 hown7 hgrow7 hat7; have HG7 := hideL (HGL4.out.more (mm := 0) (p := delX o) hown7 hgrow7 (delX_rin HRO.out)); have HA7 := hideL (Mp.app (mm := 0) HGL4.out.row hgrow7 HMA4.out); have HB7 := hideL (Mp.app (mm := 0) HGL4.out.row hgrow7 HMB4.out); clear hown7 hgrow7 hat7)
          go_roundw
          case rel =>
            refine ⟨f + 1, os ++ [delX o], by go_num, by omega, HG7.out, ?_, HA7.out, HB7.out⟩
            rw [HST.out, HG.out, List.map_append, HOS.out]; rfl
          case measure => simp [intOf]; omega
        · have HG : Hid (goneB (F.map Rx.toRs) (T.map Rx.toRs) i o.toRs = false) := by unfold Hid goneB; simp [hf, hfe]
          have hfe' : decide ((f : Int) = i) = false := by simp; omega
          clear hj hf
          go_wp2_with fail
          go_roundw
          case rel =>
            refine ⟨i + 1, os, by go_num, by omega, HGL4.out, ?_, HMA4.out, HMB4.out⟩
            rw [HST.out, HG.out, HOS.out]; simp
          case measure => simp [intOf]; omega
    · have h3' : ¬ (i : Int) < n := by omega
      obtain rfl : i = n := by omega
      have HB0 := hideL HGL.out.bel
      go_wp2_with fail
      go_loopw [7, 57] (fun v t wr => ∃ (j : Nat) (os : List Rx), t = .int .i64 j ∧ j ≤ m ∧ Gl w wr v os ∧ os.map Rx.toRs = delsL (F.map Rx.toRs) (T.map Rx.toRs) i ++ newsL sb (F.map Rx.toRs) (T.map Rx.toRs) j ∧ Mp wr w.heap.size i (firstsF (F.map Rx.toRs)) ∧ Mp wr P m (firstsF (T.map Rx.toRs))) (fun _ t _ => m - (intOf t).toNat)
      case atStart => exact ⟨0, os, rfl, by omega, HGL.out, by rw [HOS.out]; simp [newsL], HMA.out, HMB.out⟩
      case round =>
        clear HGL HMA HMB HOS hvc hvm hol
        obtain ⟨j, os, rfl, hj, hgl, hos, hma, hmb⟩ := hrel
        have j0 : (0 : Int) ≤ j := by omega
        have hol : os.length ≤ i + j := by
          have := congrArg List.length hos
          have h2 := delsL_len (F.map Rx.toRs) (T.map Rx.toRs) i
          have h3 := newsL_len sb (F.map Rx.toRs) (T.map Rx.toRs) j
          simp at this; omega
        obtain ⟨va, vc, rfl, _, hvc, hvm⟩ := own_form hgl.row
        have HGL := hideL hgl
        have HOS := hideL hos
        have HMA := hideL hma
        have HMB := hideL hmb
        clear hgl hos hma hmb
        by_cases h4 : j < m
        · have h4' : (j : Int) < m := by omega
          rcases hki : T[j]? with _ | o
          · have := List.getElem?_eq_none_iff.1 hki; have := HM.out; omega
          have HRO := hideL (HTT.out.each o (List.mem_of_getElem? hki))
          have HK := hideL HRO.out.ok.key
          obtain ⟨g, off, rfl, d0, d1, d2, d3, d4, d5, d6, d7⟩ := (HTT.out.row.below HGL.out.bel).cells hki
          have HKI : Hid ((T.map Rx.toRs)[j]? = some o.toRs) := by unfold Hid; simp [hki]
          have HST : Hid (newsL sb (F.map Rx.toRs) (T.map Rx.toRs) (j + 1) = newsL sb (F.map Rx.toRs) (T.map Rx.toRs) j ++ (if newB sb (F.map Rx.toRs) (T.map Rx.toRs) j o.toRs = true then [o.toRs] else [])) := newsL_step HKI.out
          clear hki
          go_wp2_with fail
          refine (keyOf_any _ o).mono ?_
          rintro e w3 ⟨rfl, hg3⟩
          have HG3 := hideL ((Gr.alloc wr _).trans hg3)
          have HX3 := hideL (show w3.heap[wr.heap.size]? = some (boxO o) from hg3.below.cells (heap_alloc_new wr _))
          clear hg3 d0 d1 d2 d3 d4 d5 d6 d7
          obtain ⟨B, hB⟩ : ∃ B, wr.heap.size = B := ⟨_, rfl⟩
          rw [hB] at HX3 ⊢
          unfold keyV Rs.key
          dsimp only
          have HGL3 := hideL (HGL.out.below HG3.out.below)
          have HMA3 := hideL (HMA.out.below HG3.out.below)
          have HMB3 := hideL (HMB.out.below HG3.out.below)
          clear HGL HMA HMB HG3 hB
          have HGA := hideL (Gr.alloc w3 (.cells #[.int .i64 o.kd, .string o.nm] 53 (0, 0)))
          obtain ⟨q0, q1⟩ := key_cells w3 o.kd o.nm
          obtain ⟨w4, hw4⟩ : ∃ X, w3.alloc (.cells #[.int .i64 o.kd, .string o.nm] 53 (0, 0)) = X := ⟨_, rfl⟩
          rw [hw4] at HGA q0 q1
          have HGL4 := hideL (HGL3.out.below HGA.out.below)
          have HMA4 := hideL (HMA3.out.below HGA.out.below)
          have HMB4 := hideL (HMB3.out.below HGA.out.below)
          have HX4 := hideL (HGA.out.below.cells HX3.out)
          obtain ⟨e0, e1, e2, e3, e4, e5, e6, e7⟩ := box8 HX4.out
          clear HGL3 HMA3 HMB3 HX3 HGA
          obtain ⟨t, q', ht, htj, _⟩ := firstsF_some HKI.out
          have HNO : Hid (newB sb (F.map Rx.toRs) (T.map Rx.toRs) j o.toRs = false → os.map Rx.toRs = delsL (F.map Rx.toRs) (T.map Rx.toRs) i ++ newsL sb (F.map Rx.toRs) (T.map Rx.toRs) (j + 1)) := fun h => by rw [HST.out, h, HOS.out]; simp
          have HYES : Hid (newB sb (F.map Rx.toRs) (T.map Rx.toRs) j o.toRs = true → (os ++ [o]).map Rx.toRs = delsL (F.map Rx.toRs) (T.map Rx.toRs) i ++ newsL sb (F.map Rx.toRs) (T.map Rx.toRs) (j + 1)) := fun h => by rw [HST.out, h, List.map_append, HOS.out]; simp
          have hlt : ∀ q, (Instr.lookup 50 (.map (some P)) (.agg #[.int .i64 o.kd, .string o.nm]) false).run Try.prog (w4.drewN q) = .ok (.int .i64 t) (w4.drewN q) := fun q => ((HMB4.out.below (Gr.drewN w4 q).below).look HK.out false).1 t ht
          have HLT := hideL hlt
          clear hlt
          have hlm : os.length + 1 ≤ maxLen := by unfold maxLen; omega
          have hlb : (os.length + 1) * 136 ≤ 140737488355328 := by omega
          rcases lookC HMA4.out HK.out with ⟨f, hf⟩ | hf
          · have hlk : (Instr.lookup 50 (.map (some w.heap.size)) (.agg #[.int .i64 o.kd, .string o.nm]) true).run Try.prog w4 = .ok (.tuple #[.int .i64 f, .bool true]) w4 := (HMA4.out.look HK.out true).1 f hf
            by_cases hte : t = j
            · obtain ⟨x, hx, hxk⟩ := firstsF_in hf
              subst hte
              have hfl : f < i := by have := (List.getElem?_eq_some_iff.1 hx).1; have := HN.out; omega
              have f0 : (0 : Int) ≤ f := by omega
              have f1 : (f : Int) < i := by omega
              have HRX := hideL (HF.out.each x (List.mem_of_getElem? hx))
              obtain ⟨g', off', rfl, y0, y1, y2, y3, y4, y5, y6, y7⟩ := (HF.out.row.below HGL4.out.bel).cells hx
              have HNW : Hid (newB sb (F.map Rx.toRs) (T.map Rx.toRs) t o.toRs = !sb x.toRs o.toRs) := by
                unfold Hid newB
                simp [ht, show firstsF (F.map Rx.toRs) o.toRs.key = some f from hf, hx]
              have HS := hideL (fun (w' : World) (h : Gr w4 w') => show (w'.cell? ⟨w3.heap.size, 0, none⟩ = some (.int .i64 o.kd) ∧ w'.cell? ⟨w3.heap.size, 1, none⟩ = some (.string o.nm) ∧ w'.cell? ⟨g', off' + f * 8, none⟩ = some (.int .i64 x.kd) ∧ w'.cell? ⟨g', off' + f * 8 + 1, none⟩ = some (.string x.nm) ∧ w'.cell? ⟨g', off' + f * 8 + 2, none⟩ = some (.slice x.ea x.eps.length x.ec) ∧ w'.cell? ⟨g', off' + f * 8 + 3, none⟩ = some (.slice x.ta x.tgs.length x.tc) ∧ w'.cell? ⟨g', off' + f * 8 + 4, none⟩ = some (.string x.host) ∧ w'.cell? ⟨g', off' + f * 8 + 5, none⟩ = some (.slice x.ra x.rus.length x.rc) ∧ w'.cell? ⟨g', off' + f * 8 + 6, none⟩ = some (.string x.route) ∧ w'.cell? ⟨g', off' + f * 8 + 7, none⟩ = some (.bool x.del) ∧ w'.cell? ⟨B, 0, none⟩ = some (.int .i64 o.kd) ∧ w'.cell? ⟨B, 1, none⟩ = some (.string o.nm) ∧ w'.cell? ⟨B, 2, none⟩ = some (.slice o.ea o.eps.length o.ec) ∧ w'.cell? ⟨B, 3, none⟩ = some (.slice o.ta o.tgs.length o.tc) ∧ w'.cell? ⟨B, 4, none⟩ = some (.string o.host) ∧ w'.cell? ⟨B, 5, none⟩ = some (.slice o.ra o.rus.length o.rc) ∧ w'.cell? ⟨B, 6, none⟩ = some (.string o.route) ∧ w'.cell? ⟨B, 7, none⟩ = some (.bool o.del)) from ⟨h.cell q0, h.cell q1, h.cell y0, h.cell y1, h.cell y2, h.cell y3, h.cell y4, h.cell y5, h.cell y6, h.cell y7, h.cell e0, h.cell e1, h.cell e2, h.cell e3, h.cell e4, h.cell e5, h.cell e6, h.cell e7⟩)
              have hq1 : (Instr.lookup 50 (.map (some P)) (.agg #[.int .i64 o.kd, .string o.nm]) false).run Try.prog w4.drew = .ok (.int .i64 t) w4.drew := HLT.out 1
              have HC : Hid (∀ W, Gr w4 W → Calls Try.prog 20 #[.agg #[.int .i64 x.kd, .string x.nm, .slice x.ea x.eps.length x.ec, .slice x.ta x.tgs.length x.tc, .string x.host, .slice x.ra x.rus.length x.rc, .string x.route, .bool x.del], .agg #[.int .i64 o.kd, .string o.nm, .slice o.ea o.eps.length o.ec, .slice o.ta o.tgs.length o.tc, .string o.host, .slice o.ra o.rus.length o.rc, .string o.route, .bool o.del]] W fun e w' => Tells e (SameC x.toRs o.toRs) ∧ Gr W w') := fun W hW => same_any W x o (HRX.out.below (HGL4.out.bel.trans (hW.below.mono HGL4.out.bel.size))) (HRO.out.below (HGL4.out.bel.trans (hW.below.mono HGL4.out.bel.size)))
              clear ht hf hx hxk
              go_wp2_with fail
              go_region_held3 (fun w' => w'.cell? ⟨w3.heap.size, 0, none⟩ = some (.int .i64 o.kd) ∧ w'.cell? ⟨w3.heap.size, 1, none⟩ = some (.string o.nm) ∧ w'.cell? ⟨g', off' + f * 8, none⟩ = some (.int .i64 x.kd) ∧ w'.cell? ⟨g', off' + f * 8 + 1, none⟩ = some (.string x.nm) ∧ w'.cell? ⟨g', off' + f * 8 + 2, none⟩ = some (.slice x.ea x.eps.length x.ec) ∧ w'.cell? ⟨g', off' + f * 8 + 3, none⟩ = some (.slice x.ta x.tgs.length x.tc) ∧ w'.cell? ⟨g', off' + f * 8 + 4, none⟩ = some (.string x.host) ∧ w'.cell? ⟨g', off' + f * 8 + 5, none⟩ = some (.slice x.ra x.rus.length x.rc) ∧ w'.cell? ⟨g', off' + f * 8 + 6, none⟩ = some (.string x.route) ∧ w'.cell? ⟨g', off' + f * 8 + 7, none⟩ = some (.bool x.del) ∧ w'.cell? ⟨B, 0, none⟩ = some (.int .i64 o.kd) ∧ w'.cell? ⟨B, 1, none⟩ = some (.string o.nm) ∧ w'.cell? ⟨B, 2, none⟩ = some (.slice o.ea o.eps.length o.ec) ∧ w'.cell? ⟨B, 3, none⟩ = some (.slice o.ta o.tgs.length o.tc) ∧ w'.cell? ⟨B, 4, none⟩ = some (.string o.host) ∧ w'.cell? ⟨B, 5, none⟩ = some (.slice o.ra o.rus.length o.rc) ∧ w'.cell? ⟨B, 6, none⟩ = some (.string o.route) ∧ w'.cell? ⟨B, 7, none⟩ = some (.bool o.del)) (go_keep) (first
                | (go_at_call 20; refine (HC.out _ (Gr.drewN w4 1)).mono ?_; rintro e w5 ⟨⟨bb, rfl, hbb⟩, hg5⟩; have HG5 := hideL ((Gr.drewN w4 1).trans hg5); have HBB := hideL hbb; obtain ⟨p0, p1, p2, p3, p4, p5, p6, p7, p8, p9, p10, p11, p12, p13, p14, p15, p16, p17⟩ := HS.out w5 HG5.out; clear hg5 hbb))
              have HGL5 := hideL (HGL4.out.below HG5.out.below)
              have HMA5 := hideL (HMA4.out.below HG5.out.below)
              have HMB5 := hideL (HMB4.out.below HG5.out.below)
              have HSE : Hid (sb x.toRs o.toRs = bb) := by
                unfold Hid
                rw [Bool.eq_iff_iff, HSB.out, HBB.out]
              clear q0 q1 e0 e1 e2 e3 e4 e5 e6 e7 y0 y1 y2 y3 y4 y5 y6 y7 hq1 hlk hw4 p0 p1 p2 p3 p4 p5 p6 p7 p8 p9
              cases bb
              · have HN1 := hideL (HYES.out (by rw [HNW.out, HSE.out]; rfl))
                have HOD : Hid ((w5.alloc (Obj.cells #[.int .i64 o.kd, .string o.nm, .slice o.ea o.eps.length o.ec, .slice o.ta o.tgs.length o.tc, .string o.host, .slice o.ra o.rus.length o.rc, .string o.route, .bool o.del] 34)).ownsRow w.heap.size 34 8 (.slice va os.length vc) os.length (rowsOf Rx.row os)) := HGL5.out.row.alloc _
                have HND : Hid (∀ j u, o.row[j]? = some u → (w5.alloc (Obj.cells #[.int .i64 o.kd, .string o.nm, .slice o.ea o.eps.length o.ec, .slice o.ta o.tgs.length o.tc, .string o.host, .slice o.ra o.rus.length o.rc, .string o.route, .bool o.del] 34)).cell? ((⟨w5.heap.size, 0, none⟩ : Addr).add j) = some u) := World.news_of_block (w := (w5.alloc (Obj.cells #[.int .i64 o.kd, .string o.nm, .slice o.ea o.eps.length o.ec, .slice o.ta o.tgs.length o.tc, .string o.host, .slice o.ra o.rus.length o.rc, .string o.route, .bool o.del] 34))) (Go.heap_alloc_new w5 _)
                have hszD : w.heap.size ≤ (w5.alloc (Obj.cells #[.int .i64 o.kd, .string o.nm, .slice o.ea o.eps.length o.ec, .slice o.ta o.tgs.length o.tc, .string o.host, .slice o.ra o.rus.length o.rc, .string o.route, .bool o.del] 34)).heap.size := Nat.le_trans HGL5.out.bel.size (by simp)
                go_wp2_with (at_builtin; refine wpList_append_at _ rfl (.tmp 87) (.tmp 89) 22 rfl w.heap.size 34 i52 _ 8 136 Try.underlying22 hi52 hx0 hx1 hx2 rfl (by decide) (.slice va os.length vc) os.length (rowsOf Rx.row os) rfl HOD.out ⟨w5.heap.size, 0, none⟩ 1 1 o.row rfl rfl HND.out (rx_one _) hlm hlb hszD ?_; intro v7 w7 hown7 hgrow7 hat7; have HG7 := hideL (HGL5.out.more (mm := 0) (p := o) hown7 hgrow7 HRO.out); have HA7 := hideL (Mp.app (mm := 0) HGL5.out.row hgrow7 HMA5.out); have HB7 := hideL (Mp.app (mm := 0) HGL5.out.row hgrow7 HMB5.out); clear hown7 hgrow7 hat7)
                go_roundw
                case rel => exact ⟨t + 1, os ++ [o], by go_num, by omega, HG7.out, HN1.out, HA7.out, HB7.out⟩
                case measure => simp [intOf]; omega
              · have HN1 := hideL (HNO.out (by rw [HNW.out, HSE.out]; rfl))
                go_wp2
                go_roundw
                case rel => exact ⟨t + 1, os, by go_num, by omega, HGL5.out, HN1.out, HMA5.out, HMB5.out⟩
                case measure => simp [intOf]; omega
            · have HN1 := hideL (HNO.out (by unfold newB; simp [ht, hte]))
              have hte' : decide ((t : Int) = j) = false := by simp; omega
              have hte2 : decide (t = j) = false := by simp [hte]
              have hte3 : ((t : Int) == (j : Int)) = false := by simp; omega
              have hq := HLT.out
              clear ht hf hte
              go_wp2_with fail
              go_quiet (fail)
              go_wp2
              go_roundw
              case rel => exact ⟨j + 1, os, by go_num, by omega, HGL4.out.below (Gr.drewN _ _).below, HN1.out, HMA4.out.below (Gr.drewN _ _).below, HMB4.out.below (Gr.drewN _ _).below⟩
              case measure => simp [intOf]; omega
          · have hlk : (Instr.lookup 50 (.map (some w.heap.size)) (.agg #[.int .i64 o.kd, .string o.nm]) true).run Try.prog w4 = .ok (.tuple #[.int .i64 0, .bool false]) w4 := (HMA4.out.look HK.out true).2 hf
            by_cases hte : t = j
            · have HN1 := hideL (HYES.out (by unfold newB; simp [ht, hte, show firstsF (F.map Rx.toRs) o.toRs.key = none from hf]))
              subst hte
              have hq := HLT.out
              clear ht hf
              go_wp2_with fail
              go_quiet (fail)
              have HGD := hideL (Gr.drewN w4 nq)
              generalize w4.drewN nq = w5 at HGD ⊢
              have HGL5 := hideL (HGL4.out.below HGD.out.below)
              have HMA5 := hideL (HMA4.out.below HGD.out.below)
              have HMB5 := hideL (HMB4.out.below HGD.out.below)
              obtain ⟨x0, x1, x2, x3, x4, x5, x6, x7⟩ := box8 (HGD.out.below.cells HX4.out)
              clear q0 q1 e0 e1 e2 e3 e4 e5 e6 e7 hq hlk hw4
              have HOD : Hid ((w5.alloc (Obj.cells #[.int .i64 o.kd, .string o.nm, .slice o.ea o.eps.length o.ec, .slice o.ta o.tgs.length o.tc, .string o.host, .slice o.ra o.rus.length o.rc, .string o.route, .bool o.del] 34)).ownsRow w.heap.size 34 8 (.slice va os.length vc) os.length (rowsOf Rx.row os)) := HGL5.out.row.alloc _
              have HND : Hid (∀ j u, o.row[j]? = some u → (w5.alloc (Obj.cells #[.int .i64 o.kd, .string o.nm, .slice o.ea o.eps.length o.ec, .slice o.ta o.tgs.length o.tc, .string o.host, .slice o.ra o.rus.length o.rc, .string o.route, .bool o.del] 34)).cell? ((⟨w5.heap.size, 0, none⟩ : Addr).add j) = some u) := World.news_of_block (w := (w5.alloc (Obj.cells #[.int .i64 o.kd, .string o.nm, .slice o.ea o.eps.length o.ec, .slice o.ta o.tgs.length o.tc, .string o.host, .slice o.ra o.rus.length o.rc, .string o.route, .bool o.del] 34))) (Go.heap_alloc_new w5 _)
              have hszD : w.heap.size ≤ (w5.alloc (Obj.cells #[.int .i64 o.kd, .string o.nm, .slice o.ea o.eps.length o.ec, .slice o.ta o.tgs.length o.tc, .string o.host, .slice o.ra o.rus.length o.rc, .string o.route, .bool o.del] 34)).heap.size := Nat.le_trans HGL5.out.bel.size (by simp)
              go_wp2_with (at_builtin; refine wpList_append_at _ rfl (.tmp 87) (.tmp 89) 22 rfl w.heap.size 34 i52 _ 8 136 Try.underlying22 hi52 hx0 hx1 hx2 rfl (by decide) (.slice va os.length vc) os.length (rowsOf Rx.row os) rfl HOD.out ⟨w5.heap.size, 0, none⟩ 1 1 o.row rfl rfl HND.out (rx_one _) hlm hlb hszD ?_; intro v7 w7 hown7 hgrow7 hat7; have HG7 := hideL (HGL5.out.more (mm := 0) (p := o) hown7 hgrow7 HRO.out); have HA7 := hideL (Mp.app (mm := 0) HGL5.out.row hgrow7 HMA5.out); have HB7 := hideL (Mp.app (mm := 0) HGL5.out.row hgrow7 HMB5.out); clear hown7 hgrow7 hat7)
              go_roundw
              case rel => exact ⟨t + 1, os ++ [o], by go_num, by omega, HG7.out, HN1.out, HA7.out, HB7.out⟩
              case measure => simp [intOf]; omega
            · have HN1 := hideL (HNO.out (by unfold newB; simp [ht, hte]))
              have hte' : decide ((t : Int) = j) = false := by simp; omega
              have hte2 : decide (t = j) = false := by simp [hte]
              have hte3 : ((t : Int) == (j : Int)) = false := by simp; omega
              have hq := HLT.out
              clear ht hf hte
              go_wp2_with fail
              go_quiet (fail)
              go_wp2
              go_roundw
              case rel => exact ⟨j + 1, os, by go_num, by omega, HGL4.out.below (Gr.drewN _ _).below, HN1.out, HMA4.out.below (Gr.drewN _ _).below, HMB4.out.below (Gr.drewN _ _).below⟩
              case measure => simp [intOf]; omega
        · have h4' : ¬ (j : Int) < m := by omega
          obtain rfl : j = m := by omega
          go_wp2_with fail
          refine (sorted_any H0.out wr va os.length vc os HGL.out.lr rfl (by omega)).mono ?_
          rintro e w5 ⟨v, qs, rfl, hol5, hso, hb5⟩
          have HO5 := hideL (hol5.low HGL.out.bel.size)
          have HS5 := hideL hso
          have HB5 := hideL (HGL.out.bel.trans (hb5.mono HGL.out.bel.size))
          clear hol5 hso hb5
          go_wp2
          go_ret
          refine ⟨v, qs, rfl, HO5.out, ?_, HB5.out⟩
          have := HS5.out
          rw [HOS.out] at this
          exact sort_fold this (diff_nodup sb _ _ _ _)
end Go.Proofs.Ytmljljpldljpjab
