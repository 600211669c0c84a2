import Derived.Test.YtmljljpldljpjabSq
import Derived.Test.YtmljljpldljpjabCm
import Derived.Test.YtmljljpldljpjabBndA
import Derived.Test.YtmljljpldljpjabOpen
/- What is spoilt, and what stays: for the law CheckOwn. -/
namespace Go.Proofs.Ytmljljpldljpjab
open Go.RowKit
set_option linter.unusedVariables false
set_option linter.unusedSimpArgs false
set_option maxRecDepth 100000
/-- what may be written over: the blocks from p to q, from r to s, and those made since -/
def Wri (p q r s : Nat) (A : World) (g : Nat) : Prop := (p ≤ g ∧ g < q) ∨ (r ≤ g ∧ g < s) ∨ A.heap.size ≤ g
/-- the rest is as it was -/
structure Spo (p q r s : Nat) (A W : World) : Prop where
  os : W.os = A.os
  tape : W.tape = A.tape
  output : W.output = A.output
  size : A.heap.size ≤ W.heap.size
  old : ∀ k, k < A.heap.size → ¬ Wri p q r s A k → W.heap[k]? = A.heap[k]?
theorem Spo.refl (p q r s : Nat) (A : World) : Spo p q r s A A := ⟨rfl, rfl, rfl, Nat.le_refl _, fun _ _ _ => rfl⟩
theorem Spo.below {p q r s : Nat} {A W W' : World} (h : Spo p q r s A W) (hb : Below W.heap.size W W') : Spo p q r s A W' :=
  ⟨hb.os.trans h.os, hb.tape.trans h.tape, hb.output.trans h.output, Nat.le_trans h.size hb.size, fun k hk hn => (hb.block k (Nat.lt_of_lt_of_le hk h.size)).trans (h.old k hk hn)⟩
theorem Spo.under {p q r s : Nat} {A W : World} (h : Spo p q r s A W) (h1 : p ≤ r) (h2 : p ≤ A.heap.size) : Below p A W :=
  ⟨h.os, h.tape, h.output, h.size, fun k hk => h.old k (by omega) (by unfold Wri; omega)⟩
theorem Spo.sp {p q r s : Nat} {A W W' : World} (h : Spo p q r s A W) {In : Nat → Prop} (hs : Sp In W W') (hi : ∀ k, In k → Wri p q r s A k) : Spo p q r s A W' :=
  ⟨hs.os.trans h.os, hs.tape.trans h.tape, hs.output.trans h.output, Nat.le_trans h.size hs.size, fun k hk hn => (hs.out k (Nat.lt_of_lt_of_le hk h.size) (fun g => hn (hi k g))).trans (h.old k hk hn)⟩
theorem Spo.grow {p q r s mm : Nat} {A W W2 : World} (h : Spo p q r s A W) {ob : Obj} {v : Value} (hg : ((W.alloc ob).drewN mm).grownBy W2 v.ownBlock) (hv : ∀ k, v.ownBlock = some k → Wri p q r s A k) : Spo p q r s A W2 :=
  ⟨hg.os.trans h.os, hg.tape.trans h.tape, hg.output.trans h.output, Nat.le_trans h.size (Nat.le_trans (by simp) hg.size), fun k hk hn => ((hg.block k (by have := h.size; simp; omega) (fun e => hn (hv k e.symm))).trans (Below.heap_alloc W ob k (Nat.lt_of_lt_of_le hk h.size))).trans (h.old k hk hn)⟩
/-- a list whose blocks are as they were -/
theorem Ol.held {W W' : World} {base : Nat} {v : Value} {os : List Rx} (h : Ol W base v os) (hk : ∀ k, base ≤ k → k < W.heap.size → W'.heap[k]? = W.heap[k]?) : Ol W' base v os :=
  ⟨own_blk' h.row (fun k e => hk k (h.row.lt k e).1 (h.row.lt k e).2), fun o ho => (h.each o ho).keep (fun k e => hk k ((h.each o ho).lt e).1 ((h.each o ho).lt e).2)⟩
/-- what Merge answers, in memory of its own -/
def MoE (w : World) (C D : List Rs) (e : Ending) (w' : World) : Prop := ∃ a k Q, e = .returned (.tuple #[.slice a (mgL C D).length k, .int .i64 (mgA C D), .int .i64 (mgX C D)]) ∧ Q.length = (mgL C D).length ∧ Ol w' w.heap.size (.slice a (mgL C D).length k) Q ∧ (∀ o ∈ Q, Rok o.toRs) ∧ Q.map Rx.toRs = mgL C D ∧ Below w.heap.size w w'
theorem merge_o (w : World) (a b : Option Addr) (c1 c2 : Nat) (C D : List Rx) (hC : Lr w a C) (hD : Lr w b D) (hs : C.length ≤ 1048576) (hs2 : D.length ≤ 1048576) :
    Calls Try.prog 6 #[.slice a C.length c1, .slice b D.length c2] w fun e w' => MoE w (C.map Rx.toRs) (D.map Rx.toRs) e w' := by
  refine (merge_any w a b C.length D.length c1 c2 C D hC hD rfl rfl hs hs2).mono ?_
  rintro e w' ⟨hb, ⟨p, x, hm, rfl⟩ | ⟨hm, a', c', qs, rfl, ho, hp⟩⟩
  · refine ⟨none, 0, [], ?_, ?_, ?_, fun o ho => (by cases ho), ?_, hb⟩
    · simp [mgL, mgA, mgX, hm]
    · simp [mgL, hm]
    · have e : (mgL (C.map Rx.toRs) (D.map Rx.toRs)).length = 0 := by simp [mgL, hm]
      rw [e]; exact Ol.nil _ _
    · simp [mgL, hm]
  · have e1 := merg_one hm hp
    have e2 : qs.map Rx.toRs = mgL (C.map Rx.toRs) (D.map Rx.toRs) := by rw [e1]; simp [mgL, hm]
    have e3 : qs.length = (mgL (C.map Rx.toRs) (D.map Rx.toRs)).length := by rw [← e2, List.length_map]
    refine ⟨a', c', qs, ?_, e3, by rw [← e3]; exact ho, fun o h => ?_, e2, hb⟩
    · rw [← e3]; simp [mgA, mgX, hm]
    · have : o.toRs ∈ mgL (C.map Rx.toRs) (D.map Rx.toRs) := by rw [← e2]; exact List.mem_map_of_mem h
      rcases mg_mem this with h | h
      · obtain ⟨p, hp, e⟩ := List.mem_map.1 h
        rw [← e]; exact (hC.each p hp).ok
      · obtain ⟨p, hp, e⟩ := List.mem_map.1 h
        rw [← e]; exact (hD.each p hp).ok
/-- what Diff answers, in memory of its own -/
def DoE (w : World) (R : List Rs) (e : Ending) (w' : World) : Prop := ∃ a c qs, e = .returned (.slice a R.length c) ∧ qs.length = R.length ∧ Ol w' w.heap.size (.slice a R.length c) qs ∧ (∀ o ∈ qs, Rok o.toRs) ∧ qs.map Rx.toRs = R ∧ Below w.heap.size w w'
theorem diff_o {sb : Rs → Rs → Bool} (hsb : ∀ a b, sb a b = true ↔ SameC a b) (w : World) (a b : Option Addr) (c1 c2 : Nat) (F T : List Rx) (hF : Lr w a F) (hT : Lr w b T) (hs : F.length ≤ 1048576) (hs2 : T.length ≤ 1048576) :
    Calls Try.prog 7 #[.slice a F.length c1, .slice b T.length c2] w fun e w' => DoE w (foldP (delsL (F.map Rx.toRs) (T.map Rx.toRs) F.length ++ newsL sb (F.map Rx.toRs) (T.map Rx.toRs) T.length)) e w' := by
  refine (diff_e hsb w a b c1 c2 F T hF hT hs hs2).mono ?_
  rintro e w' ⟨a', c', qs, h1, h2, h3, h4, h5, h6⟩
  exact ⟨a', c', qs, h1, h2, h3, fun o ho => (h4.each o ho).ok, h5, h6⟩
theorem Sps.of_two {W0 w : World} {B : Nat} {g n c : Nat} {os : List Rx} {In : Nat → Prop} (h : Ol W0 B (.slice (some ⟨g, 0, none⟩) n c) os) (h2 : Ol w B (.slice (some ⟨g, 0, none⟩) n c) os) (hk : ∀ o ∈ os, Rok o.toRs) (hn : os.length = n) (hI : ∀ k, B ≤ k → k < W0.heap.size → In k) : Sps w w In g n c (rowsOf Rx.row os) 0 1048576 1048576 1048576 := by
  subst hn
  refine ⟨Sp.refl _ _, own_low' h2.row (Nat.zero_le _), ?_, fun j hj => ?_⟩
  · have := h.row.lt (k := g) rfl
    exact hI g this.1 this.2
  · obtain ⟨o, ho⟩ : ∃ o, os[j]? = some o := ⟨os[j], List.getElem?_eq_getElem hj⟩
    have hm := List.mem_of_getElem? ho
    have hr := h.each o hm
    have hr2 := h2.each o hm
    have kk := hk o hm
    simp only [ite_self]
    exact ⟨⟨_, rowsOf_at Rx.row 8 rx_len os j o ho 2 _ rfl, _, _, _, _, rfl, own_low' hr2.e (Nat.zero_le _), by have := kk.le; omega, fun k hk' => hI k (hr.lt (.inl hk')).1 (hr.lt (.inl hk')).2⟩,
      ⟨_, rowsOf_at Rx.row 8 rx_len os j o ho 3 _ rfl, _, _, _, _, rfl, own_low' hr2.t (Nat.zero_le _), by have := kk.lt; omega, fun k hk' => hI k (hr.lt (.inr (.inl hk'))).1 (hr.lt (.inr (.inl hk'))).2⟩,
      ⟨_, rowsOf_at Rx.row 8 rx_len os j o ho 5 _ rfl, _, _, _, _, rfl, own_low' hr2.r (Nat.zero_le _), by have := kk.lr; omega, fun k hk' => hI k (hr.lt (.inr (.inr hk'))).1 (hr.lt (.inr (.inr hk'))).2⟩⟩
/-- spoil of a list that lay so in an elder world, and lies so still -/
theorem spoil_two {W0 w : World} {B : Nat} {a : Option Addr} {n c : Nat} {os : List Rx} (h : Ol W0 B (.slice a n c) os) (h2 : Ol w B (.slice a n c) os) (hl : os.length = n) (hk : ∀ o ∈ os, Rok o.toRs) (hn : n ≤ 1048576) :
    Calls Try.prog 8 #[.slice a n c] w fun e w' => e = .returned (.tuple #[]) ∧ Sp (fun k => (B ≤ k ∧ k < W0.heap.size) ∨ w.heap.size ≤ k) w w' ∧ ∃ xs, w'.ownsRow 0 34 8 (.slice a n c) n xs := by
  subst hl
  rcases h.row.2 with ⟨h1, h0⟩ | ⟨g, cap, cur, h1, -⟩
  · injection h1 with h3 h4 h5
    subst h3
    rw [h0]
    refine (spoil_nil w c).mono ?_
    rintro e w' ⟨rfl, rfl⟩
    exact ⟨rfl, Sp.refl _ _, [], by simp, .inl ⟨by rw [h5], rfl⟩⟩
  · injection h1 with h3 h4 h5
    subst h3
    refine (spoil_some w (fun k => (B ≤ k ∧ k < W0.heap.size) ∨ w.heap.size ≤ k) g os.length c _ (Sps.of_two h h2 hk rfl (fun k h1 h2 => Or.inl ⟨h1, h2⟩)) (fun k hk => Or.inr hk) hn).mono ?_
    rintro e w' ⟨rfl, ys, hs⟩
    exact ⟨rfl, hs.sp, ys, hs.row⟩
theorem diff_len (sb : Rs → Rs → Bool) (F T : List Rs) : (foldP (delsL F T F.length ++ newsL sb F T T.length)).length ≤ F.length + T.length := by
  rw [foldP_len, List.length_append]
  have := delsL_len F T F.length
  have := newsL_len sb F T T.length
  omega
def zero8 : List Value := [.int .i64 0, .string ⟨#[]⟩, .slice none 0 0, .slice none 0 0, .string ⟨#[]⟩, .slice none 0 0, .string ⟨#[]⟩, .bool false]
theorem zero16_one : ∀ u ∈ zero8 ++ zero8, u.oneCell' = true := List.all_eq_true.1 rfl
end Go.Proofs.Ytmljljpldljpjab

/- The walk of CheckOwn. -/
namespace Go.Proofs.Ytmljljpldljpjab
open Go.RowKit
set_option linter.unusedVariables false
set_option linter.unusedSimpArgs false
set_option maxRecDepth 100000
set_option maxHeartbeats 64000000 in
theorem checkOwn_any (w : World) (a b : Option Addr) (n m c1 c2 : Nat) (F T : List Rx) (hF : Lr w a F) (hT : Lr w b T) (hbF : ∀ o ∈ F, Bare o) (hbT : ∀ o ∈ T, Bare o) (hn : F.length = n) (hm : T.length = m) (hs : n ≤ 1048576) (hs2 : m ≤ 1048576) (hss : n + m ≤ 1048576) (hfF : Frm a n c1) (hfT : Frm b m c2) :
    Calls Try.prog 3 #[.slice a n c1, .slice b m c2] w fun e w' => e = .returned (.bool true) ∧ Below w.heap.size w w' := by
  subst hn hm
  have HF := hideL hF
  have HTT := hideL hT
  have HBF := hideL hbF
  have HBT := hideL hbT
  have HFF := hideL hfF
  have HFT := hideL hfT
  clear hF hT hbF hbT hfF hfT
  have haw := awake_any w
  go_enter Try.func3, Try.ntmps3
  go_wp2_with (go_at_call 4; refine haw.mono ?_; rintro e w0 ⟨rfl, hb⟩; have HB0 := hideL hb; clear hb haw)
  refine (own_e w0 a c1 F (HF.out.below HB0.out) HBF.out hs).mono ?_
  rintro e w1 ⟨a1, k1, A, rfl, hA1, hA2, hA3, hA4, hb1⟩
  have HA := hideL hA3
  have HAO := hideL hA2
  have HAE := hideL hA4
  have HAL := hideL hA1
  have HB1 := hideL (HB0.out.trans (hb1.mono HB0.out.size))
  have z1 := hb1.size
  clear hA1 hA2 hA3 hA4 hb1
  go_wp2_with fail
  refine (own_e w1 b c2 T (HTT.out.below HB1.out) HBT.out hs2).mono ?_
  rintro e w2 ⟨a2, k2, B, rfl, hA1, hA2, hA3, hA4, hb2⟩
  have HBB := hideL hA3
  have HBE := hideL hA4
  have HBL := hideL hA1
  have HA2 := hideL (HA.out.below hb2)
  have HB2 := hideL (HB1.out.trans (hb2.mono HB1.out.size))
  have z2 := hb2.size
  clear hA1 hA2 hA3 hA4 hb2 HA HB1
  have HMW : Hid (∀ W, Below w2.heap.size w2 W → Calls Try.prog 6 #[.slice a1 F.length k1, .slice a2 T.length k2] W fun e w' => MoE W (F.map Rx.toRs) (T.map Rx.toRs) e w') := fun W hW => by
    have := merge_o W a1 a2 k1 k2 A B (HA2.out.below hW) (HBB.out.below hW) (by rw [HAL.out]; exact hs) (by rw [HBL.out]; exact hs2)
    rw [HAE.out, HBE.out, HAL.out, HBL.out] at this
    exact this
  have HRM := hideL (fun W (hW : Below w.heap.size w W) => rmerge_e W a b c1 c2 F T (HF.out.below hW) (HTT.out.below hW) HFF.out HFT.out hs hs2)
  have HML := hideL (mg_len (F.map Rx.toRs) (T.map Rx.toRs))
  unfold MoE at HMW
  unfold MeE at HRM
  generalize mgL (F.map Rx.toRs) (T.map Rx.toRs) = R at HMW HRM HML
  generalize mgA (F.map Rx.toRs) (T.map Rx.toRs) = p at HMW HRM
  generalize mgX (F.map Rx.toRs) (T.map Rx.toRs) = x at HMW HRM
  obtain ⟨sb, hsb⟩ : ∃ sb : Rs → Rs → Bool, ∀ a b, sb a b = true ↔ SameC a b := ⟨fun a b => @decide (SameC a b) (Classical.propDecidable _), fun a b => @decide_eq_true_iff _ (Classical.propDecidable _)⟩
  have HDW : Hid (∀ W, Below w2.heap.size w2 W → Calls Try.prog 7 #[.slice a1 F.length k1, .slice a2 T.length k2] W fun e w' => DoE W (foldP (delsL (F.map Rx.toRs) (T.map Rx.toRs) F.length ++ newsL sb (F.map Rx.toRs) (T.map Rx.toRs) T.length)) e w') := fun W hW => by
    have := diff_o hsb W a1 a2 k1 k2 A B (HA2.out.below hW) (HBB.out.below hW) (by rw [HAL.out]; exact hs) (by rw [HBL.out]; exact hs2)
    rw [HAE.out, HBE.out, HAL.out, HBL.out] at this
    exact this
  have HRW := hideL (fun W (hW : Below w.heap.size w W) => rdiff_any sb hsb W a b F.length T.length c1 c2 F T (HF.out.below hW) (HTT.out.below hW) rfl rfl hs hs2)
  unfold DoE at HDW
  unfold RdE at HRW
  have hSl : (foldP (delsL (F.map Rx.toRs) (T.map Rx.toRs) F.length ++ newsL sb (F.map Rx.toRs) (T.map Rx.toRs) T.length)).length ≤ 1048576 := by
    have := diff_len sb (F.map Rx.toRs) (T.map Rx.toRs)
    simp only [List.length_map] at this
    omega
  generalize foldP (delsL (F.map Rx.toRs) (T.map Rx.toRs) F.length ++ newsL sb (F.map Rx.toRs) (T.map Rx.toRs) T.length) = S at HDW HRW hSl
  have hRl := HML.out
  go_wp2_with fail
  refine (HMW.out w2 (Below.refl _ _)).mono ?_
  rintro e w3 ⟨a3, k3, M, rfl, hM1, hM2, hM3, -, hb3⟩
  have HMO := hideL hM2
  have HMK := hideL hM3
  have HM1 := hideL hM1
  have HB3 := hideL hb3
  have z3 := hb3.size
  clear hM1 hM2 hM3 hb3
  go_wp2_with fail
  refine (HMW.out w3 HB3.out).mono ?_
  rintro e w4 ⟨a4, k4, N4, rfl, hM1, hM2, hM3, hM4, hb4⟩
  have HNO := hideL hM2
  have HNK := hideL hM3
  have HN1 := hideL hM1
  have HNE := hideL hM4
  have HB34 := hideL hb4
  have z4 := hb4.size
  have HB4 := hideL (HB3.out.trans (hb4.mono (by omega)))
  clear hM1 hM2 hM3 hM4 hb4 HMW
  go_wp2_with fail
  refine (HDW.out w4 HB4.out).mono ?_
  rintro e w5 ⟨a5, k5, D, rfl, hM1, hM2, hM3, -, hb5⟩
  have HDO := hideL hM2
  have HDK := hideL hM3
  have HD1 := hideL hM1
  have HB45 := hideL hb5
  have z5 := hb5.size
  have HB5 := hideL (HB4.out.trans (hb5.mono (by omega)))
  clear hM1 hM2 hM3 hb5
  go_wp2_with fail
  refine (HDW.out w5 HB5.out).mono ?_
  rintro e w6 ⟨a6, k6, O, rfl, hM1, hM2, hM3, hM4, hb6⟩
  have HOO := hideL hM2
  have HOK := hideL hM3
  have HO1 := hideL hM1
  have HOE := hideL hM4
  have HB56 := hideL hb6
  have z6 := hb6.size
  have HB6 := hideL (HB5.out.trans (hb6.mono (by omega)))
  have HB36 : Hid (Below w3.heap.size w3 w6) := HB34.out.trans ((HB45.out.trans (HB56.out.mono (by omega))).mono (by omega))
  have HB46 : Hid (Below w4.heap.size w4 w6) := HB45.out.trans (HB56.out.mono (by omega))
  clear hM1 hM2 hM3 hM4 hb6 HDW
  have hsp := spoil_two HMO.out (HMO.out.below HB36.out) HM1.out HMK.out (by omega)
  go_wp2_with fail
  refine hsp.mono ?_
  rintro e w7 ⟨rfl, hs7, xs, hx7⟩
  have HS7 : Hid (Spo w2.heap.size w3.heap.size w4.heap.size w5.heap.size w6 w7) := (Spo.refl _ _ _ _ _).sp hs7 (fun k hk => by unfold Wri; omega)
  have HX7 := hideL hx7
  have HDO7 : Hid (Ol w7 w4.heap.size (.slice a5 S.length k5) D) := HDO.out.held (fun k h1 h2 => (hs7.out k (by omega) (fun g => by omega)).trans (HB56.out.block k h2))
  clear hs7 hx7 hsp
  have z7 := HS7.out.size
  have hsp := spoil_two HDO.out HDO7.out HD1.out HDK.out hSl
  go_wp2_with fail
  refine hsp.mono ?_
  rintro e w8 ⟨rfl, hs8, ys, hy8⟩
  have HMB : Hid (∀ k, (Value.slice a3 R.length k3).ownBlock = some k → w2.heap.size ≤ k ∧ k < w3.heap.size) := fun k hk => HMO.out.row.lt k hk
  have HDB : Hid (∀ k, (Value.slice a5 S.length k5).ownBlock = some k → w4.heap.size ≤ k ∧ k < w5.heap.size) := fun k hk => HDO.out.row.lt k hk
  have HS8 : Hid (Spo w2.heap.size w3.heap.size w4.heap.size w5.heap.size w6 w8) := HS7.out.sp hs8 (fun k hk => by unfold Wri; omega)
  have HX8 : Hid (w8.ownsRow 0 34 8 (.slice a3 R.length k3) R.length xs) := own_blk' HX7.out (fun k hk => hs8.out k (HX7.out.lt k hk).2 (fun g => by have := HMB.out k hk; omega))
  have HY8 := hideL hy8
  clear hs8 hy8 hsp HX7 HDO7 HMO HDO
  obtain ⟨i34, hi34, hx0, hx1, hx2⟩ := info_parts Try.info34
  have HOD : Hid ((w8.alloc (Obj.cells #[.int .i64 0, .string ⟨#[]⟩, .slice none 0 0, .slice none 0 0, .string ⟨#[]⟩, .slice none 0 0, .string ⟨#[]⟩, .bool false, .int .i64 0, .string ⟨#[]⟩, .slice none 0 0, .slice none 0 0, .string ⟨#[]⟩, .slice none 0 0, .string ⟨#[]⟩, .bool false] 34)).ownsRow 0 34 8 (.slice a3 R.length k3) R.length xs) := HX8.out.alloc _
  have HND : Hid (∀ j u, (zero8 ++ zero8)[j]? = some u → (w8.alloc (Obj.cells #[.int .i64 0, .string ⟨#[]⟩, .slice none 0 0, .slice none 0 0, .string ⟨#[]⟩, .slice none 0 0, .string ⟨#[]⟩, .bool false, .int .i64 0, .string ⟨#[]⟩, .slice none 0 0, .slice none 0 0, .string ⟨#[]⟩, .slice none 0 0, .string ⟨#[]⟩, .bool false] 34)).cell? ((⟨w8.heap.size, 0, none⟩ : Addr).add j) = some u) := World.news_of_block (w := (w8.alloc (Obj.cells #[.int .i64 0, .string ⟨#[]⟩, .slice none 0 0, .slice none 0 0, .string ⟨#[]⟩, .slice none 0 0, .string ⟨#[]⟩, .bool false, .int .i64 0, .string ⟨#[]⟩, .slice none 0 0, .slice none 0 0, .string ⟨#[]⟩, .slice none 0 0, .string ⟨#[]⟩, .bool false] 34))) (Go.heap_alloc_new w8 _)
  have hlm : R.length + 2 ≤ maxLen := by unfold maxLen; omega
  have hlb : (R.length + 2) * 136 ≤ 140737488355328 := by omega
  have hlm2 : S.length + 2 ≤ maxLen := by unfold maxLen; omega
  have hlb2 : (S.length + 2) * 136 ≤ 140737488355328 := by omega
  go_wp2_with (first
    | (at_builtin; refine wpList_append_at _ rfl (.tmp 48) (.tmp 51) 22 rfl 0 34 i34 _ 8 136 Try.underlying22 hi34 hx0 hx1 hx2 rfl (by decide) (.slice a3 R.length k3) R.length xs rfl HOD.out ⟨w8.heap.size, 0, none⟩ 2 2 (zero8 ++ zero8) rfl rfl HND.out zero16_one hlm hlb (Nat.zero_le _) ?_; intro v9 w9 hown9 hgrow9 hat9; obtain ⟨a9, c9, rfl, _⟩ := own_form hown9; have HS9 : Hid (Spo w2.heap.size w3.heap.size w4.heap.size w5.heap.size w6 w9) := (hideL (HS8.out.grow (mm := 0) hgrow9 (fun k hk => .inl (HMB.out k hk)))); have HY9 : Hid (w9.ownsRow 0 34 8 (.slice a5 S.length k5) S.length ys) := (hideL (own_blk' HY8.out (fun k hk => (hgrow9.block k (by have := (HY8.out.lt k hk).2; simp; omega) (fun g => by have h1 := HMB.out k g.symm; have h2 := HDB.out k hk; omega)).trans (Below.heap_alloc w8 _ k (HY8.out.lt k hk).2)))); have HOE9 : Hid ((w9.alloc (Obj.cells #[.int .i64 0, .string ⟨#[]⟩, .slice none 0 0, .slice none 0 0, .string ⟨#[]⟩, .slice none 0 0, .string ⟨#[]⟩, .bool false, .int .i64 0, .string ⟨#[]⟩, .slice none 0 0, .slice none 0 0, .string ⟨#[]⟩, .slice none 0 0, .string ⟨#[]⟩, .bool false] 34)).ownsRow 0 34 8 (.slice a5 S.length k5) S.length ys) := (hideL (HY9.out.alloc _)); have HND9 : Hid (∀ j u, (zero8 ++ zero8)[j]? = some u → (w9.alloc (Obj.cells #[.int .i64 0, .string ⟨#[]⟩, .slice none 0 0, .slice none 0 0, .string ⟨#[]⟩, .slice none 0 0, .string ⟨#[]⟩, .bool false, .int .i64 0, .string ⟨#[]⟩, .slice none 0 0, .slice none 0 0, .string ⟨#[]⟩, .slice none 0 0, .string ⟨#[]⟩, .bool false] 34)).cell? ((⟨w9.heap.size, 0, none⟩ : Addr).add j) = some u) := World.news_of_block (w := (w9.alloc (Obj.cells #[.int .i64 0, .string ⟨#[]⟩, .slice none 0 0, .slice none 0 0, .string ⟨#[]⟩, .slice none 0 0, .string ⟨#[]⟩, .bool false, .int .i64 0, .string ⟨#[]⟩, .slice none 0 0, .slice none 0 0, .string ⟨#[]⟩, .slice none 0 0, .string ⟨#[]⟩, .bool false] 34))) (Go.heap_alloc_new w9 _); clear hown9 hgrow9 hat9)
    | (at_builtin; refine wpList_append_at _ rfl (.tmp 53) (.tmp 56) 22 rfl 0 34 i34 _ 8 136 Try.underlying22 hi34 hx0 hx1 hx2 rfl (by decide) (.slice a5 S.length k5) S.length ys rfl HOE9.out ⟨w9.heap.size, 0, none⟩ 2 2 (zero8 ++ zero8) rfl rfl HND9.out zero16_one hlm2 hlb2 (Nat.zero_le _) ?_; intro v10 w10 hown10 hgrow10 hat10; obtain ⟨a10, c10, rfl, _⟩ := own_form hown10; have HS10 : Hid (Spo w2.heap.size w3.heap.size w4.heap.size w5.heap.size w6 w10) := (hideL (HS9.out.grow (mm := 0) hgrow10 (fun k hk => .inr (.inl (HDB.out k hk))))); clear hown10 hgrow10 hat10))
  have HB10 : Hid (Below w2.heap.size w2 w10) := HB6.out.trans (HS10.out.under (by omega) (by omega))
  have HW10 : Hid (Below w.heap.size w w10) := HB2.out.trans (HB10.out.mono HB2.out.size)
  have HN10 : Hid (Ol w10 w3.heap.size (.slice a4 R.length k4) N4) := HNO.out.held (fun k h1 h2 => (HS10.out.old k (by omega) (by unfold Wri; omega)).trans (HB46.out.block k h2))
  have HO10 : Hid (Ol w10 w5.heap.size (.slice a6 S.length k6) O) := HOO.out.held (fun k h1 h2 => HS10.out.old k h2 (by unfold Wri; omega))
  have HNL : Hid (Lr w10 a4 N4) := HN10.out.lr HNK.out
  have HOL : Hid (Lr w10 a6 O) := HO10.out.lr HOK.out
  have HAL10 : Hid (Lr w10 a1 A) := HA2.out.below HB10.out
  have HBL10 : Hid (Lr w10 a2 B) := HBB.out.below HB10.out
  clear HX8 HY8 HS7 HS8 HS9 HY9 HOE9 HND9 HOD HND HN10 HO10 HNO HOO HMB HDB HS10 hlm hlb hlm2 hlb2
  refine (HRM.out w10 HW10.out).mono ?_
  rintro e w11 ⟨a11, k11, Q, rfl, hQ1, hQ2, hQ3, hb11⟩
  have HLI := hideL (lists_any w11 a4 a11 R.length k4 k11 N4 Q HN1.out (by omega) (HNL.out.below hb11) hQ2 (by rw [HNE.out, hQ3]))
  have HOL11 := hideL (HOL.out.below hb11)
  have HA11 := hideL (HAL10.out.below hb11)
  have HB11 := hideL (HBL10.out.below hb11)
  have HW11 := hideL (HW10.out.trans (hb11.mono HW10.out.size))
  clear hQ1 hQ2 hQ3 hb11 HNL HOL HAL10 HBL10 HRM
  have HNU : Hid (∀ W, Calls Try.prog 10 #[.int .i64 x] W fun e w' => e = .returned (.int .i64 x) ∧ w' = W) := fun W => num_any W x
  go_wp2_with fail
  refine (HNU.out _).mono ?_
  rintro e w12 ⟨rfl, hw⟩
  have hw := hw.symm
  subst hw
  go_wp2_with fail
  refine HLI.out.mono ?_
  rintro e w12 ⟨rfl, hg⟩
  have HOL12 := hideL (HOL11.out.below hg.below)
  have HA12 := hideL (HA11.out.below hg.below)
  have HB12 := hideL (HB11.out.below hg.below)
  have HW12 := hideL (HW11.out.trans (hg.below.mono HW11.out.size))
  clear hg HLI HOL11 HA11 HB11 HW11
  go_wp2_with fail
  refine (HRW.out w12 HW12.out).mono ?_
  rintro e w13 ⟨a13, k13, c13, P, rfl, hP1, hP2, -, hP4, hb13⟩
  have hkl : k13 = S.length := by rw [← hP1, ← hP4, List.length_map]
  subst hkl
  have HLI := hideL (lists_any w13 a6 a13 S.length k6 c13 O P HO1.out (by omega) (HOL12.out.below hb13) hP2 (by rw [HOE.out, hP4]))
  have HA13 := hideL (HA12.out.below hb13)
  have HB13 := hideL (HB12.out.below hb13)
  have HW13 := hideL (HW12.out.trans (hb13.mono HW12.out.size))
  clear hP1 hP2 hP4 hb13 HOL12 HA12 HB12 HW12 HRW
  go_wp2_with fail
  refine HLI.out.mono ?_
  rintro e w14 ⟨rfl, hg⟩
  have HA14 := hideL (HA13.out.below hg.below)
  have HB14 := hideL (HB13.out.below hg.below)
  have HW14 := hideL (HW13.out.trans (hg.below.mono HW13.out.size))
  clear hg HLI HA13 HB13 HW13
  go_wp2_with fail
  refine (own_e w14 a c1 F (HF.out.below HW14.out) HBF.out hs).mono ?_
  rintro e w15 ⟨a15, k15, A15, rfl, hA1, hA2, hA3, hA4, hb15⟩
  have HLI := hideL (lists_any w15 a1 a15 F.length k1 k15 A A15 HAL.out (by omega) (HA14.out.below hb15) hA3 (by rw [HAE.out, hA4]))
  have HB15 := hideL (HB14.out.below hb15)
  have HW15 := hideL (HW14.out.trans (hb15.mono HW14.out.size))
  clear hA1 hA2 hA3 hA4 hb15 HA14 HB14 HW14
  go_wp2_with fail
  refine HLI.out.mono ?_
  rintro e w16 ⟨rfl, hg⟩
  have HB16 := hideL (HB15.out.below hg.below)
  have HW16 := hideL (HW15.out.trans (hg.below.mono HW15.out.size))
  clear hg HB15 HW15 HLI
  go_wp2_with fail
  refine (own_e w16 b c2 T (HTT.out.below HW16.out) HBT.out hs2).mono ?_
  rintro e w17 ⟨a17, k17, A17, rfl, hA1, hA2, hA3, hA4, hb17⟩
  have HLI := hideL (lists_any w17 a2 a17 T.length k2 k17 B A17 HBL.out (by omega) (HB16.out.below hb17) hA3 (by rw [HBE.out, hA4]))
  have HW17 := hideL (HW16.out.trans (hb17.mono HW16.out.size))
  clear hA1 hA2 hA3 hA4 hb17 HB16 HW16
  go_wp2_with fail
  refine HLI.out.mono ?_
  rintro e w18 ⟨rfl, hg⟩
  have HW18 := hideL (HW17.out.trans (hg.below.mono HW17.out.size))
  clear hg HW17 HLI
  have n1 : (2 : Int) ≤ (R.length : Int) + 2 := by omega
  have n2 : (2 : Int) ≤ (S.length : Int) + 2 := by omega
  go_wp2_with fail
  go_ret
  exact ⟨rfl, HW18.out⟩
end Go.Proofs.Ytmljljpldljpjab

/-
  CheckOwn holds of the program: what Merge and Diff answer is memory of its own, and what is handed in stays; of readings of bulk at most 1048576.
-/
namespace Go.Proofs.Ytmljljpldljpjab
open Go.ChangeShapes Go.WideShapes Go.ChangeAt Go.RowKit
set_option linter.unusedVariables false
set_option linter.unusedSimpArgs false

set_option maxRecDepth 100000 in
theorem checkOwn_lifted (os : Os) (started : os.Started) (H : Type) (enc : TypeId × Value → H) (F : Stop.Interp) :
    ReturnsInHanded {} Try.checked os 3 .any ((Rows.OpenSpec.upto Rows.checkOwnSpec).pre6 enc Try.prog Try.f3 Rows.checkOwnUptoRow.domain false) (((Rows.OpenSpec.upto Rows.checkOwnSpec).at F).post enc Try.prog Try.f3 false true false false) := by
  refine returnsInHanded_of_cond (C := Try.checked) (s := Rows.OpenSpec.upto Rows.checkOwnSpec) (k := Rows.uptoSmall) rfl own started (by kernel_rfl) Try.func3
    (OpenSpec.witness (enc := enc) (C := Try.checked) (s := Rows.OpenSpec.upto Rows.checkOwnSpec) (k := Rows.uptoSmall) rfl false ⟨#[], #[.slice none 0 0, .slice none 0 0], []⟩ 8 (by kernel_rfl) (by kernel_rfl) (by kernel_rfl)
      (x := ([.nil, .nil], [], [])) (by kernel_rfl) rfl (by kernel_rfl)) ?_
  intro W base args ds gs before hval0 hW _ hk _
  have hval : ∀ (j : Nat) t v, Try.f3.params[j]? = some t → args[j]? = some v → Value.okWide Try.prog W .any base t v := hval0
  have hbulk : Rows.uptoBulkAll (ds ++ gs) ≤ 1048576 := of_decide_eq_true hk
  have hW' := hW
  obtain ⟨p, q, hA0, hV, rfl, hfz, hnd⟩ := hW
  have hA : DataW.TrodAll enc Try.prog W 0 (fun _ => true) true Try.f3.params.toList args.toList ds p := hA0
  rw [Try.params3] at hA hval
  obtain ⟨v0, vs0, d0, ds0, p0, q0, hargs, rfl, rfl, h0, r0⟩ := trodAll_cons hA
  obtain ⟨v1, vs1, d1, ds1, p1, q1, rfl, rfl, rfl, h1, r1⟩ := trodAll_cons r0
  obtain ⟨rfl, rfl, rfl⟩ := trodAll_nil r1
  obtain rfl : args = #[v0, v1] := by cases args; simp_all
  obtain ⟨rfl, rfl⟩ := trodVars_none hV
  obtain ⟨a0, len0, cap0, rfl⟩ := okWide_slice Try.underlying22 (hval 0 22 v0 rfl rfl)
  have k0 := h0
  have lt0 : ∀ x ∈ p0, x.block < W.heap.size := by obtain ⟨m, hm⟩ := k0; exact DataW.trod_lt m _ _ _ hm
  obtain ⟨z0, w0⟩ := open_res h0 (j := 0) rfl hbulk
  obtain ⟨a1, len1, cap1, rfl⟩ := okWide_slice Try.underlying22 (hval 1 22 v1 rfl rfl)
  have k1 := h1
  have lt1 : ∀ x ∈ p1, x.block < W.heap.size := by obtain ⟨m, hm⟩ := k1; exact DataW.trod_lt m _ _ _ hm
  obtain ⟨z1, w1⟩ := open_res h1 (j := 1) rfl hbulk
  clear hA0 hval0
  refine (checkOwn_any W a0 a1 len0 len1 cap0 cap1 z0 z1 w0.2.1 w1.2.1 w0.2.2.1 w1.2.2.1 w0.1 w1.1 (Nat.le_trans w0.2.2.2.1 (by decide)) (Nat.le_trans w1.2.2.2.1 (by decide)) (by have := w0.2.2.2.1; have := w1.2.2.2.1; omega) w0.2.2.2.2 w1.2.2.2.2).mono fun e W' ⟨he, bel⟩ => ?_
  subst he
  exact ⟨_, rfl, _, _, _, [], _, [], hW', trodAll_mk1 (shut_bool Try.underlying4 _), (trodAll_cons_mk (Below.trod laidOut (by kernel_rfl) (of_decide_eq_true (by kernel_rfl)) k0 bel lt0) (trodAll_cons_mk (Below.trod laidOut (by kernel_rfl) (of_decide_eq_true (by kernel_rfl)) k1 bel lt1) trodAll_mk0)), rfl, bel.frame _, fun h => by cases h⟩

theorem checkOwn_holdsUpto : Rows.CheckOwnUptoSaid :=
  OpenClaim.holds_of_cond 3 Try.f3 rfl rfl rfl rfl rfl rfl rfl ⟨rfl, rfl, rfl, rfl, rfl⟩ rfl rfl rfl rfl rfl (by kernel_rfl) Try.func3 (by kernel_rfl)
    (of_decide_eq_true (by kernel_rfl)) (by unfold Func.isWrapper; first | (rw [if_pos (by decide +kernel)]; kernel_rfl) | (rw [if_neg (by decide +kernel)]; exact ⟨rfl, rfl⟩))
    (fun os started H enc _ F => checkOwn_lifted os started H enc F)
#print axioms checkOwn_holdsUpto
end Go.Proofs.Ytmljljpldljpjab
