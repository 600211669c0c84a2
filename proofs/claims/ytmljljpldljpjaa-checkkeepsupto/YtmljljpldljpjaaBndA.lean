import Derived.Test.YtmljljpldljpjaaMx
import Derived.Test.YtmljljpldljpjaaMr
import Derived.Test.YtmljljpldljpjaaCd
import Derived.Test.YtmljljpldljpjaaCk
/-
  Merge and the document's Merge answer the same.
-/
namespace Go.Proofs.Ytmljljpldljpjaa
open Go.RowKit
set_option linter.unusedVariables false
set_option linter.unusedSimpArgs false
set_option maxRecDepth 100000
def mgL (C D : List Rs) : List Rs := match mrF C D with | some _ => [] | none => allM C D D.length
def mgA (C D : List Rs) : Int := match mrF C D with | some (a, _) => a | none => 0
def mgX (C D : List Rs) : Int := match mrF C D with | some (_, x) => x | none => 0
theorem mg_mem {C D : List Rs} {r : Rs} (h : r ∈ mgL C D) : r ∈ C ∨ r ∈ D := by
  unfold mgL at h
  rcases hm : mrF C D with _ | ⟨a, x⟩
  · rw [hm] at h
    dsimp only at h
    obtain ⟨h1, h2, _⟩ := mrF_none hm
    have := (merg_perm h1 h2).1.mem_iff.1 h
    unfold mergL at this
    rcases List.mem_append.1 this with h | h
    · exact .inl (List.mem_filter.1 h).1
    · exact .inr (List.mem_filter.1 h).1
  · rw [hm] at h; cases h
/-- what both leave -/
def MeE (w : World) (C D : List Rs) (e : Ending) (w' : World) : Prop := ∃ a k Q, e = .returned (.tuple #[.slice a (mgL C D).length k, .int .i64 (mgA C D), .int .i64 (mgX C D)]) ∧ Q.length = (mgL C D).length ∧ Lr w' a Q ∧ Q.map Rx.toRs = mgL C D ∧ Below w.heap.size w w'
theorem lr_nil (w : World) : Lr w none [] := ⟨(fun o ho => by cases ho), .inl rfl⟩
theorem merge_e (w : World) (a b : Option Addr) (c1 c2 : Nat) (C D : List Rx) (hC : Lr w a C) (hD : Lr w b D) (hs : C.length ≤ 1048576) (hs2 : D.length ≤ 1048576) :
    Calls Try.prog 10 #[.slice a C.length c1, .slice b D.length c2] w fun e w' => MeE w (C.map Rx.toRs) (D.map Rx.toRs) e w' := by
  refine (merge_any w a b C.length D.length c1 c2 C D hC hD rfl rfl hs hs2).mono ?_
  rintro e w' ⟨hb, ⟨p, x, hm, rfl⟩ | ⟨hm, a', c', qs, rfl, ho, hp⟩⟩
  · refine ⟨none, 0, [], ?_, ?_, lr_nil _, ?_, hb⟩
    · simp [mgL, mgA, mgX, hm]
    · simp [mgL, hm]
    · simp [mgL, hm]
  · have e1 := merg_one hm hp
    have e2 : qs.map Rx.toRs = mgL (C.map Rx.toRs) (D.map Rx.toRs) := by rw [e1]; simp [mgL, hm]
    have e3 : qs.length = (mgL (C.map Rx.toRs) (D.map Rx.toRs)).length := by rw [← e2, List.length_map]
    refine ⟨a', c', qs, ?_, e3, ho.lr (fun o h => ?_), e2, hb⟩
    · rw [← e3]; simp [mgA, mgX, hm]
    · have : o.toRs ∈ mgL (C.map Rx.toRs) (D.map Rx.toRs) := by rw [← e2]; exact List.mem_map_of_mem h
      rcases mg_mem this with h | h
      · obtain ⟨p, hp, e⟩ := List.mem_map.1 h
        rw [← e]; exact (hC.each p hp).ok
      · obtain ⟨p, hp, e⟩ := List.mem_map.1 h
        rw [← e]; exact (hD.each p hp).ok
theorem rmerge_e (w : World) (a b : Option Addr) (c1 c2 : Nat) (C D : List Rx) (hC : Lr w a C) (hD : Lr w b D) (hf1 : Frm a C.length c1) (hf2 : Frm b D.length c2) (hs : C.length ≤ 1048576) (hs2 : D.length ≤ 1048576) :
    Calls Try.prog 11 #[.slice a C.length c1, .slice b D.length c2] w fun e w' => MeE w (C.map Rx.toRs) (D.map Rx.toRs) e w' := by
  refine (rmerge_any w a b C.length D.length c1 c2 C D hC hD hf1 hf2 rfl rfl hs hs2).mono ?_
  rintro e w' ⟨hb, ⟨p, x, hm, rfl⟩ | ⟨hm, a', c', qs, rfl, ho, hp⟩⟩
  · refine ⟨none, 0, [], ?_, ?_, lr_nil _, ?_, hb⟩
    · simp [mgL, mgA, mgX, hm]
    · simp [mgL, hm]
    · simp [mgL, hm]
  · have e2 : qs.map Rx.toRs = mgL (C.map Rx.toRs) (D.map Rx.toRs) := by rw [hp]; simp [mgL, hm]
    have e3 : qs.length = (mgL (C.map Rx.toRs) (D.map Rx.toRs)).length := by rw [← e2, List.length_map]
    refine ⟨a', c', qs, ?_, e3, ho, e2, hb⟩
    · rw [← e3]; simp [mgA, mgX, hm]
end Go.Proofs.Ytmljljpldljpjaa

/-
  The walk of CheckMerges.
-/
namespace Go.Proofs.Ytmljljpldljpjaa
open Go.RowKit
set_option linter.unusedVariables false
set_option linter.unusedSimpArgs false
set_option maxRecDepth 100000
theorem mg_len (C D : List Rs) : (mgL C D).length ≤ 64 := by
  unfold mgL
  rcases hm : mrF C D with _ | ⟨a, x⟩
  · obtain ⟨h1, h2, h3⟩ := mrF_none hm
    dsimp only
    rw [(merg_perm h1 h2).1.length_eq]; exact h3
  · exact Nat.zero_le _
set_option maxHeartbeats 4000000 in
theorem num_any (w : World) (x : Int) : Calls Try.prog 12 #[.int .i64 x] w fun e w' => e = .returned (.int .i64 x) ∧ w' = w := by
  go_enter Try.func12, Try.ntmps12
  go_wp2
  go_ret
  exact ⟨rfl, rfl⟩
set_option maxHeartbeats 32000000 in
theorem checkMerges_any (w : World) (a b : Option Addr) (n m c1 c2 : Nat) (F T : List Rx) (hF : Lr w a F) (hT : Lr w b T) (hbF : ∀ o ∈ F, Bare o) (hbT : ∀ o ∈ T, Bare o) (hn : F.length = n) (hm : T.length = m) (hs : n ≤ 1048576) (hs2 : m ≤ 1048576) (hfF : Frm a n c1) (hfT : Frm b m c2) :
    Calls Try.prog 3 #[.slice a n c1, .slice b m c2] w fun e w' => e = .returned (.bool true) ∧ Below w.heap.size w w' := by
  subst hn hm
  have HF := hideL hF
  have HTT := hideL hT
  have HBF := hideL hbF
  have HBT := hideL hbT
  have HFF := hideL hfF
  have HFT := hideL hfT
  clear hF hT hbF hbT hfF hfT
  go_enter Try.func3, Try.ntmps3
  go_wp2_with fail
  refine (own_e w a c1 F HF.out HBF.out hs).mono ?_
  rintro e w1 ⟨a1, k1, A, rfl, hA1, hA2, hA3, hA4, hb1⟩
  have HA := hideL hA3
  have HAE := hideL hA4
  have HAL := hideL hA1
  have HB1 := hideL hb1
  clear hA1 hA2 hA3 hA4 hb1
  go_wp2_with fail
  refine (own_e w1 b c2 T (HTT.out.below HB1.out) HBT.out hs2).mono ?_
  rintro e w2 ⟨a2, k2, B, rfl, hA1, hA2, hA3, hA4, hb2⟩
  have HBB := hideL hA3
  have HBE := hideL hA4
  have HBL := hideL hA1
  have HA2 := hideL (HA.out.below hb2)
  have HB2 := hideL (HB1.out.trans (hb2.mono HB1.out.size))
  clear hA1 hA2 hA3 hA4 hb2 HA HB1
  have HD : Hid (Calls Try.prog 10 #[.slice a1 F.length k1, .slice a2 T.length k2] w2 fun e w' => MeE w2 (F.map Rx.toRs) (T.map Rx.toRs) e w') := by
    have := merge_e w2 a1 a2 k1 k2 A B HA2.out HBB.out (by rw [HAL.out]; exact hs) (by rw [HBL.out]; exact hs2)
    rw [HAE.out, HBE.out, HAL.out, HBL.out] at this
    exact this
  have HRD := hideL (fun W (hW : Below w.heap.size w W) => rmerge_e W a b c1 c2 F T (HF.out.below hW) (HTT.out.below hW) HFF.out HFT.out hs hs2)
  have HML := hideL (mg_len (F.map Rx.toRs) (T.map Rx.toRs))
  unfold MeE at HD HRD
  generalize mgL (F.map Rx.toRs) (T.map Rx.toRs) = R at HD HRD HML
  generalize mgA (F.map Rx.toRs) (T.map Rx.toRs) = p at HD HRD
  generalize mgX (F.map Rx.toRs) (T.map Rx.toRs) = x at HD HRD
  go_wp2_with fail
  refine HD.out.mono ?_
  rintro e w3 ⟨a3, k3, D, rfl, hD1, hD3, hD4, hb3⟩
  have HDD := hideL hD3
  have HDE := hideL hD4
  have HDL := hideL hD1
  have HA3 := hideL (HA2.out.below hb3)
  have HBB3 := hideL (HBB.out.below hb3)
  have HB3 := hideL (HB2.out.trans (hb3.mono HB2.out.size))
  clear hD1 hD3 hD4 hb3 HA2 HB2 HBB HD
  go_wp2_with fail
  refine (HRD.out w3 HB3.out).mono ?_
  rintro e w4 ⟨a4, k4, Q, rfl, hQ1, hQ2, hQ3, hb4⟩
  have HLI := hideL (fun W (h : Gr w4 W) => lists_any W a3 a4 R.length k3 k4 D Q HDL.out (by have := HML.out; omega) ((HDD.out.below hb4).below h.below) (hQ2.below h.below) (by rw [HDE.out, hQ3]))
  have HA4 := hideL (HA3.out.below hb4)
  have HBB4 := hideL (HBB3.out.below hb4)
  have HB4 := hideL (HB3.out.trans (hb4.mono HB3.out.size))
  clear hQ1 hQ2 hQ3 hb4 HA3 HBB3 HB3 HDD HRD
  have HNU : Hid (∀ W, Calls Try.prog 12 #[.int .i64 x] W fun e w' => e = .returned (.int .i64 x) ∧ w' = W) := fun W => num_any W x
  go_wp2_with fail
  refine (HNU.out _).mono ?_
  rintro e w5 ⟨rfl, hw⟩
  have hw := hw.symm
  subst hw
  go_wp2_with fail
  refine (HLI.out _ (Gr.refl _)).mono ?_
  rintro e w5 ⟨rfl, hg5⟩
  have HA5 := hideL (HA4.out.below hg5.below)
  have HBB5 := hideL (HBB4.out.below hg5.below)
  have HB5 := hideL (HB4.out.trans (hg5.below.mono HB4.out.size))
  clear hg5 HA4 HBB4 HB4 HLI
  go_wp2_with fail
  refine (own_e w5 a c1 F (HF.out.below HB5.out) HBF.out hs).mono ?_
  rintro e w6 ⟨a6, k6, A6, rfl, hA1, hA2, hA3, hA4, hb6⟩
  have HLI := hideL (lists_any w6 a1 a6 F.length k1 k6 A A6 HAL.out (by omega) (HA5.out.below hb6) hA3 (by rw [HAE.out, hA4]))
  have HBB6 := hideL (HBB5.out.below hb6)
  have HB6 := hideL (HB5.out.trans (hb6.mono HB5.out.size))
  clear hA1 hA2 hA3 hA4 hb6 HA5 HBB5 HB5
  go_wp2_with fail
  refine HLI.out.mono ?_
  rintro e w7 ⟨rfl, hg7⟩
  have HBB7 := hideL (HBB6.out.below hg7.below)
  have HB7 := hideL (HB6.out.trans (hg7.below.mono HB6.out.size))
  clear hg7 HBB6 HB6 HLI
  go_wp2_with fail
  refine (own_e w7 b c2 T (HTT.out.below HB7.out) HBT.out hs2).mono ?_
  rintro e w8 ⟨a8, k8, A8, rfl, hA1, hA2, hA3, hA4, hb8⟩
  have HLI := hideL (lists_any w8 a2 a8 T.length k2 k8 B A8 HBL.out (by omega) (HBB7.out.below hb8) hA3 (by rw [HBE.out, hA4]))
  have HB8 := hideL (HB7.out.trans (hb8.mono HB7.out.size))
  clear hA1 hA2 hA3 hA4 hb8 HBB7 HB7
  go_wp2_with fail
  refine HLI.out.mono ?_
  rintro e w9 ⟨rfl, hg9⟩
  have HB9 := hideL (HB8.out.trans (hg9.below.mono HB8.out.size))
  clear hg9 HB8 HLI
  go_wp2
  go_ret
  exact ⟨rfl, HB9.out⟩
end Go.Proofs.Ytmljljpldljpjaa

/-
  awake.
-/
namespace Go.Proofs.Ytmljljpldljpjaa
open Go.RowKit
set_option linter.unusedVariables false
set_option linter.unusedSimpArgs false
set_option maxRecDepth 100000
def rA (ea : Option Addr) : Rx := ⟨⟨1, ⟨#[97]⟩, [⟨#[101]⟩], [], ⟨#[]⟩, [], ⟨#[]⟩, false⟩, ea, 1, none, 0, none, 0⟩
def rS (ta : Option Addr) : Rx := ⟨⟨2, ⟨#[115]⟩, [], [⟨⟨#[97]⟩, ⟨#[]⟩, 4636737291354636288⟩], ⟨#[]⟩, [], ⟨#[]⟩, false⟩, none, 0, ta, 1, none, 0⟩
theorem rA_says (ea : Option Addr) : mgL [] [(rA ea).toRs] = [(rA ea).toRs] ∧ mgA [] [(rA ea).toRs] = 0 ∧ mgX [] [(rA ea).toRs] = 0 := by
  have : mrF [] [(rA ea).toRs] = none := by rfl
  unfold mgL mgA mgX
  rw [this]
  exact ⟨rfl, rfl, rfl⟩
theorem rS_says (ta : Option Addr) : lookF (fun _ r => looF [(rS ta).toRs] r) [(rS ta).toRs] = some (0, 1) ∧ astF [(rS ta).toRs] = 1 := by
  exact ⟨rfl, rfl⟩
theorem cel_one {W : World} {B k : Nat} {t : TypeId} {r : List Value} (h : W.heap[B]? = some (.cells r.toArray t (0, 0))) : Cel W (some ⟨B, 0, none⟩) k [r] := by
  refine .inr ⟨B, 0, rfl, fun i r' hi j u hu => ?_⟩
  obtain rfl : i = 0 := by have := (List.getElem?_eq_some_iff.1 hi).1; simp at this; exact this
  simp at hi
  subst hi
  rw [cell_block h]
  simpa using hu
theorem okS_small {l : List UInt8} (h : l.length ≤ 10) : okS ⟨l.toArray⟩ := by unfold okS; show l.toArray.size ≤ _; simp; omega
theorem rA_in {W : World} {g B : Nat} (h1 : W.heap[g]? = some (.cells #[.string ⟨#[101]⟩] 9 (0, 0))) (h2 : W.heap[B]? = some (boxO (rA (some ⟨g, 0, none⟩)))) : Lr W (some ⟨B, 0, none⟩) [rA (some ⟨g, 0, none⟩)] := by
  refine ⟨fun o ho => ?_, cel_one (r := (rA (some ⟨g, 0, none⟩)).row) h2⟩
  obtain rfl := List.mem_singleton.1 ho
  refine ⟨cel_one (r := [.string ⟨#[101]⟩]) h1, .inl rfl, .inl rfl, by show (-9223372036854775808 : Int) ≤ 1 ∧ (1 : Int) ≤ 9223372036854775807; omega, okS_small (l := [97]) (by decide), okS_small (l := []) (by decide), okS_small (l := []) (by decide), fun x hx => ?_, fun x hx => (by cases hx), fun x hx => (by cases hx), Nat.le_of_ble_eq_true rfl, Nat.le_of_ble_eq_true rfl, Nat.le_of_ble_eq_true rfl⟩
  obtain rfl := List.mem_singleton.1 hx
  exact okS_small (l := [101]) (by decide)
theorem rS_in {W : World} {g B : Nat} (h1 : W.heap[g]? = some (.cells #[.string ⟨#[97]⟩, .string ⟨#[]⟩, .float .f64 4636737291354636288] 57 (0, 0))) (h2 : W.heap[B]? = some (boxO (rS (some ⟨g, 0, none⟩)))) : Lr W (some ⟨B, 0, none⟩) [rS (some ⟨g, 0, none⟩)] := by
  refine ⟨fun o ho => ?_, cel_one (r := (rS (some ⟨g, 0, none⟩)).row) h2⟩
  obtain rfl := List.mem_singleton.1 ho
  refine ⟨.inl rfl, cel_one (r := [.string ⟨#[97]⟩, .string ⟨#[]⟩, .float .f64 4636737291354636288]) h1, .inl rfl, by show (-9223372036854775808 : Int) ≤ 2 ∧ (2 : Int) ≤ 9223372036854775807; omega, okS_small (l := [115]) (by decide), okS_small (l := []) (by decide), okS_small (l := []) (by decide), fun x hx => (by cases hx), fun x hx => ?_, fun x hx => (by cases hx), Nat.le_of_ble_eq_true rfl, Nat.le_of_ble_eq_true rfl, Nat.le_of_ble_eq_true rfl⟩
  obtain rfl := List.mem_singleton.1 hx
  exact ⟨okS_small (l := [97]) (by decide), okS_small (l := []) (by decide), by decide⟩
theorem al_size (w : World) (o : Obj) : (w.alloc o).heap.size = w.heap.size + 1 := Array.size_push _
theorem new_at (w : World) (o : Obj) {n : Nat} (h : w.heap.size = n) : (w.alloc o).heap[n]? = some o := by subst h; exact heap_alloc_new w o
theorem rA_lr (w : World) : Lr (((w.alloc (.cells #[.string ⟨#[101]⟩] 9 (0, 0))).alloc (boxO (rA (some ⟨w.heap.size, 0, none⟩)))).alloc (boxO (rA (some ⟨w.heap.size, 0, none⟩)))) (some ⟨w.heap.size + 1 + 1, 0, none⟩) [rA (some ⟨w.heap.size, 0, none⟩)] := by
  refine rA_in ?_ (new_at _ _ (by rw [al_size, al_size]))
  exact (Gr.alloc _ _).below.cells ((Gr.alloc _ _).below.cells (heap_alloc_new w _))
theorem rS_lr (w : World) : Lr ((w.alloc (.cells #[.string ⟨#[97]⟩, .string ⟨#[]⟩, .float .f64 4636737291354636288] 57 (0, 0))).alloc (boxO (rS (some ⟨w.heap.size, 0, none⟩)))) (some ⟨w.heap.size + 1, 0, none⟩) [rS (some ⟨w.heap.size, 0, none⟩)] := by
  refine rS_in ?_ (new_at _ _ (by rw [al_size]))
  exact (Gr.alloc _ _).below.cells (heap_alloc_new w _)
set_option maxHeartbeats 16000000 in
theorem awake_any (w : World) : Calls Try.prog 22 #[] w fun e w' => e = .returned (.bool true) ∧ Below w.heap.size w w' := by
  have HA := hideL (rA_lr w)
  have HG := hideL (((Gr.alloc w (.cells #[.string ⟨#[101]⟩] 9 (0, 0))).trans (Gr.alloc _ (boxO (rA (some ⟨w.heap.size, 0, none⟩))))).trans (Gr.alloc _ (boxO (rA (some ⟨w.heap.size, 0, none⟩)))))
  unfold boxO at HA HG
  obtain ⟨w1, hw1⟩ : ∃ X, (((w.alloc (.cells #[.string ⟨#[101]⟩] 9 (0, 0))).alloc (.cells #[.int .i64 1, .string ⟨#[97]⟩, .slice (some ⟨w.heap.size, 0, none⟩) 1 1, .slice none 0 0, .string ⟨#[]⟩, .slice none 0 0, .string ⟨#[]⟩, .bool false] 52 (0, 0))).alloc (.cells #[.int .i64 1, .string ⟨#[97]⟩, .slice (some ⟨w.heap.size, 0, none⟩) 1 1, .slice none 0 0, .string ⟨#[]⟩, .slice none 0 0, .string ⟨#[]⟩, .bool false] 52 (0, 0))) = X := ⟨_, rfl⟩
  have HA1 : Hid (Lr w1 (some ⟨w.heap.size + 1 + 1, 0, none⟩) [rA (some ⟨w.heap.size, 0, none⟩)]) := by rw [← hw1]; exact HA.out
  have HG1 : Hid (Gr w w1) := by rw [← hw1]; exact HG.out
  have HM : Hid (Calls Try.prog 10 #[.slice none 0 0, .slice (some ⟨w.heap.size + 1 + 1, 0, none⟩) 1 1] w1 fun e w' => ∃ a k, e = .returned (.tuple #[.slice a 1 k, .int .i64 0, .int .i64 0]) ∧ (∃ g off, a = some ⟨g, off, none⟩ ∧ w'.cell? ⟨g, off + 1, none⟩ = some (.string ⟨#[97]⟩)) ∧ Below w1.heap.size w1 w') := by
    have := merge_e w1 none (some ⟨w.heap.size + 1 + 1, 0, none⟩) 0 1 [] [rA (some ⟨w.heap.size, 0, none⟩)] (lr_nil _) HA1.out (Nat.zero_le _) (Nat.le_of_ble_eq_true rfl)
    refine this.mono ?_
    rintro e w' ⟨a, k, Q, rfl, h1, h2, h3, h4⟩
    obtain ⟨r1, r2, r3⟩ := rA_says (some ⟨w.heap.size, 0, none⟩)
    have e1 : mgL (([] : List Rx).map Rx.toRs) ([rA (some ⟨w.heap.size, 0, none⟩)].map Rx.toRs) = [(rA (some ⟨w.heap.size, 0, none⟩)).toRs] := r1
    have e2 : mgA (([] : List Rx).map Rx.toRs) ([rA (some ⟨w.heap.size, 0, none⟩)].map Rx.toRs) = 0 := r2
    have e3 : mgX (([] : List Rx).map Rx.toRs) ([rA (some ⟨w.heap.size, 0, none⟩)].map Rx.toRs) = 0 := r3
    rw [e1] at h1 h3 ⊢
    rw [e2, e3]
    refine ⟨a, k, rfl, ?_, h4⟩
    match Q, h1 with
    | [q], _ =>
      obtain ⟨g, off, ea, _, c1, _⟩ := h2.row.cells (i := 0) (o := q) rfl
      have hq : q.toRs = (rA (some ⟨w.heap.size, 0, none⟩)).toRs := by simpa using h3
      refine ⟨g, off, ea, ?_⟩
      rw [Nat.zero_mul, Nat.add_zero] at c1
      rw [c1, hq]; rfl
  clear HA HG HA1
  go_enter Try.func22, Try.ntmps22
  go_wp2_with fail
  refine HM.out.mono ?_
  rintro e w2 ⟨a2, k2, rfl, ⟨g, off, rfl, c2⟩, hb2⟩
  have HB2 := hideL (HG1.out.below.trans (hb2.mono HG1.out.below.size))
  clear hb2 HM hw1
  have HS := hideL (rS_lr w2)
  have HG3 := hideL ((Gr.alloc w2 (.cells #[.string ⟨#[97]⟩, .string ⟨#[]⟩, .float .f64 4636737291354636288] 57 (0, 0))).trans (Gr.alloc _ (boxO (rS (some ⟨w2.heap.size, 0, none⟩)))))
  unfold boxO at HS HG3
  obtain ⟨w3, hw3⟩ : ∃ X, ((w2.alloc (.cells #[.string ⟨#[97]⟩, .string ⟨#[]⟩, .float .f64 4636737291354636288] 57 (0, 0))).alloc (.cells #[.int .i64 2, .string ⟨#[115]⟩, .slice none 0 0, .slice (some ⟨w2.heap.size, 0, none⟩) 1 1, .string ⟨#[]⟩, .slice none 0 0, .string ⟨#[]⟩, .bool false] 52 (0, 0))) = X := ⟨_, rfl⟩
  have HS3 : Hid (Lr w3 (some ⟨w2.heap.size + 1, 0, none⟩) [rS (some ⟨w2.heap.size, 0, none⟩)]) := by rw [← hw3]; exact HS.out
  have HGR : Hid (Gr w2 w3) := by rw [← hw3]; exact HG3.out
  have HC : Hid (Calls Try.prog 14 #[.slice (some ⟨w2.heap.size + 1, 0, none⟩) 1 1] w3 fun e w' => ChB w3 (0, 1, 140) e w') := by
    obtain ⟨r1, r2⟩ := rS_says (some ⟨w2.heap.size, 0, none⟩)
    refine check_bad w3 _ 1 1 (0, 1, 140) (by decide) (fun W hW => ?_)
    have := faultOf_any W (some ⟨w2.heap.size + 1, 0, none⟩) 1 1 [rS (some ⟨w2.heap.size, 0, none⟩)] (some (0, 1)) none none none (HS3.out.below hW) rfl (by decide)
      (fun _ _ W' hW' => by
        have := dangling_any W' (some ⟨w2.heap.size + 1, 0, none⟩) 1 1 [rS (some ⟨w2.heap.size, 0, none⟩)] ((HS3.out.below hW).below hW') rfl (by decide)
        rw [show lookF (fun _ r => looF ([rS (some ⟨w2.heap.size, 0, none⟩)].map Rx.toRs) r) ([rS (some ⟨w2.heap.size, 0, none⟩)].map Rx.toRs) = some (0, 1) from r1] at this
        exact this)
      (fun _ _ h => by cases h) (fun _ _ h => by cases h) (fun _ _ h => by cases h)
    have e : fltF ([rS (some ⟨w2.heap.size, 0, none⟩)].map Rx.toRs) (some (0, 1)) none none none = (0, 1, 140) := by
      unfold fltF
      rw [if_neg (fun h => h r2), if_neg (by show ¬ 64 < 1; decide)]
      rfl
    rw [e] at this
    exact this
  unfold ChB fltV at HC
  dsimp only at HC
  clear HS HG3
  go_wp2_with fail
  refine HC.out.mono ?_
  rintro e w4 ⟨rfl, hb4⟩
  replace c2 := cell_of_below hb4 (HGR.out.cell c2)
  have HB3 := hideL (HB2.out.trans (HGR.out.below.mono HB2.out.size))
  have HB4 := hideL (HB3.out.trans (hb4.mono HB3.out.size))
  clear hb4 HC hw3
  have c2' := fun X => (alloc_cell w4 X (World.block_lt_of_cell? w4 _ c2)).trans c2
  go_wp2_with fail
  go_ret
  exact ⟨rfl, HB4.out.trans ((Gr.alloc _ _).below.mono HB4.out.size)⟩
end Go.Proofs.Ytmljljpldljpjaa
