/-
  The document's Lists and find.
-/
import Derived.Test.YtmljljpldljpjabRm
namespace Go.Proofs.Ytmljljpldljpjab
open Go.RowKit
set_option linter.unusedVariables false
set_option linter.unusedSimpArgs false
set_option maxRecDepth 100000
theorem says_at {l r : List Rx} (h : l.map Rx.toRs = r.map Rx.toRs) {i : Nat} {o p : Rx} (h1 : l[i]? = some o) (h2 : r[i]? = some p) : o.toRs = p.toRs := by
  have : (l.map Rx.toRs)[i]? = (r.map Rx.toRs)[i]? := by rw [h]
  simpa [h1, h2] using this
theorem says_len {l r : List Rx} (h : l.map Rx.toRs = r.map Rx.toRs) : l.length = r.length := by
  have := congrArg List.length h; simpa using this
set_option maxHeartbeats 16000000 in
theorem lists_any (w : World) (a b : Option Addr) (n c1 c2 : Nat) (l r : List Rx) (hn : l.length = n) (hs : n ≤ 4194304) (h1 : Lr w a l) (h2 : Lr w b r) (hE : l.map Rx.toRs = r.map Rx.toRs) :
    Calls Try.prog 11 #[.slice a n c1, .slice b n c2] w fun e w' => e = .returned (.bool true) ∧ Gr w w' := by
  have HN := hideL hn
  have H1 := hideL h1
  have H2 := hideL h2
  have HE := hideL hE
  clear hn h1 h2 hE
  go_enter Try.func11, Try.ntmps11
  go_wp2_with fail
  go_loopw [5] (fun t wr => ∃ (i : Nat), t = .int .i64 i ∧ i ≤ n ∧ Gr w wr) (fun t _ => n - (intOf t).toNat)
  case atStart => exact ⟨0, rfl, by omega, Gr.refl _⟩
  case round =>
    obtain ⟨i, rfl, hi, hgr⟩ := hrel
    have HG := hideL hgr
    clear hgr
    have i0 : (0 : Int) ≤ i := by omega
    by_cases h3 : i < n
    · have h3' : (i : Int) < n := by omega
      rcases hki : l[i]? with _ | o
      · have := List.getElem?_eq_none_iff.1 hki; have := HN.out; omega
      rcases hkj : r[i]? with _ | p
      · have := List.getElem?_eq_none_iff.1 hkj; have := HN.out; have := says_len HE.out; omega
      have HSA := hideL (says_at HE.out hki hkj)
      have HRO := hideL (H1.out.each o (List.mem_of_getElem? hki))
      have HRP := hideL (H2.out.each p (List.mem_of_getElem? hkj))
      obtain ⟨g, off, rfl, c0, c1, c2, c3, c4, c5, c6, c7⟩ := (H1.out.row.below HG.out.below).cells hki
      obtain ⟨g', off', rfl, d0, d1, d2, d3, d4, d5, d6, d7⟩ := (H2.out.row.below HG.out.below).cells hkj
      have HC : Hid (∀ W, Gr wr W → Calls Try.prog 25 #[.agg #[.int .i64 o.kd, .string o.nm, .slice o.ea o.eps.length o.ec, .slice o.ta o.tgs.length o.tc, .string o.host, .slice o.ra o.rus.length o.rc, .string o.route, .bool o.del], .agg #[.int .i64 p.kd, .string p.nm, .slice p.ea p.eps.length p.ec, .slice p.ta p.tgs.length p.tc, .string p.host, .slice p.ra p.rus.length p.rc, .string p.route, .bool p.del]] W fun e w' => e = .returned (.bool true) ∧ Gr W w') := fun W hW => by
        refine (rsame_any W o p (HRO.out.below (HG.out.trans hW).below) (HRP.out.below (HG.out.trans hW).below)).mono ?_
        rintro e w' ⟨⟨b, rfl, hb⟩, h2⟩
        obtain rfl : b = true := hb.2 (by rw [HSA.out]; exact SameC.refl _)
        exact ⟨rfl, h2⟩
      have HS := hideL (fun (W' : World) (h : Gr wr W') => show (_ ∧ _ ∧ _ ∧ _ ∧ _ ∧ _ ∧ _ ∧ _ ∧ _ ∧ _ ∧ _ ∧ _ ∧ _ ∧ _ ∧ _ ∧ _) from ⟨h.cell c0, h.cell c1, h.cell c2, h.cell c3, h.cell c4, h.cell c5, h.cell c6, h.cell c7, h.cell d0, h.cell d1, h.cell d2, h.cell d3, h.cell d4, h.cell d5, h.cell d6, h.cell d7⟩)
      clear hki hkj HRO HRP
      go_wp2_with fail
      go_region_held3 (fun w' => w'.cell? ⟨g, off + i * 8, none⟩ = some (.int .i64 o.kd) ∧ w'.cell? ⟨g, off + i * 8 + 1, none⟩ = some (.string o.nm) ∧ w'.cell? ⟨g, off + i * 8 + 2, none⟩ = some (.slice o.ea o.eps.length o.ec) ∧ w'.cell? ⟨g, off + i * 8 + 3, none⟩ = some (.slice o.ta o.tgs.length o.tc) ∧ w'.cell? ⟨g, off + i * 8 + 4, none⟩ = some (.string o.host) ∧ w'.cell? ⟨g, off + i * 8 + 5, none⟩ = some (.slice o.ra o.rus.length o.rc) ∧ w'.cell? ⟨g, off + i * 8 + 6, none⟩ = some (.string o.route) ∧ w'.cell? ⟨g, off + i * 8 + 7, none⟩ = some (.bool o.del)
         ∧ w'.cell? ⟨g', off' + i * 8, none⟩ = some (.int .i64 p.kd) ∧ w'.cell? ⟨g', off' + i * 8 + 1, none⟩ = some (.string p.nm) ∧ w'.cell? ⟨g', off' + i * 8 + 2, none⟩ = some (.slice p.ea p.eps.length p.ec) ∧ w'.cell? ⟨g', off' + i * 8 + 3, none⟩ = some (.slice p.ta p.tgs.length p.tc) ∧ w'.cell? ⟨g', off' + i * 8 + 4, none⟩ = some (.string p.host) ∧ w'.cell? ⟨g', off' + i * 8 + 5, none⟩ = some (.slice p.ra p.rus.length p.rc) ∧ w'.cell? ⟨g', off' + i * 8 + 6, none⟩ = some (.string p.route) ∧ w'.cell? ⟨g', off' + i * 8 + 7, none⟩ = some (.bool p.del)) (go_keep) (first
        | (go_at_call 25; refine (HC.out _ (Gr.drewN wr 1)).mono ?_; rintro e w2 ⟨rfl, hg2⟩; have HG2 := hideL ((Gr.drewN wr 1).trans hg2); obtain ⟨p1, p2, p3, p4, p5, p6, p7, p8, p9, p10, p11, p12, p13, p14, p15, p16⟩ := HS.out w2 HG2.out; clear hg2))
      go_wp2
      go_roundw
      case rel => exact ⟨i + 1, by go_num, by omega, HG.out.trans HG2.out⟩
      case measure => simp [intOf]; omega
    · have h3' : ¬ (i : Int) < n := by omega
      go_wp2
      go_ret
      exact ⟨rfl, HG.out⟩
/-- where the first of a key stands; below 0: nowhere -/
def findI (l : List Rs) (k : Int × ByteArray) : Int := match firstsF l k with | some i => (i : Int) | none => -1
theorem firstsF_at {l : List Rs} {k : Int × ByteArray} {i : Nat} (hlt : ∀ j r, j < i → l[j]? = some r → ¬ r.key = k) {r : Rs} (hi : l[i]? = some r) (hr : r.key = k) : firstsF l k = some i := by
  unfold firstsF
  rw [List.findIdx?_eq_some_iff_getElem]
  have hil := (List.getElem?_eq_some_iff.1 hi).1
  refine ⟨hil, ?_, fun j hj => ?_⟩
  · have := (List.getElem?_eq_some_iff.1 hi).2
    rw [this]; simpa using hr
  · have := hlt j (l[j]'(by omega)) hj (List.getElem?_eq_getElem _)
    simpa using this
theorem firstsF_no {l : List Rs} {k : Int × ByteArray} (h : ∀ (j : Nat) (r : Rs), l[j]? = some r → ¬ r.key = k) : firstsF l k = none := by
  unfold firstsF
  rw [List.findIdx?_eq_none_iff]
  intro x hx
  obtain ⟨j, hj⟩ := List.getElem?_of_mem hx
  simpa using h j x hj
set_option maxHeartbeats 8000000 in
theorem find_any (w : World) (a : Option Addr) (n c : Nat) (os : List Rx) (kd : Int) (nm : ByteArray) (hn : os.length = n) (hs : n ≤ 4194304) (h1 : Cel w a 8 (os.map Rx.row)) :
    Calls Try.prog 22 #[.slice a n c, .int .i64 kd, .string nm] w fun e w' => e = .returned (.int .i64 (findI (os.map Rx.toRs) (kd, nm))) ∧ w' = w := by
  have HN := hideL hn
  have H1 := hideL h1
  clear hn h1
  have HR : Hid (∀ i : Nat, firstsF (os.map Rx.toRs) (kd, nm) = some i → findI (os.map Rx.toRs) (kd, nm) = i) := fun i h => by unfold findI; rw [h]
  have HM : Hid (firstsF (os.map Rx.toRs) (kd, nm) = none → findI (os.map Rx.toRs) (kd, nm) = -1) := fun h => by unfold findI; rw [h]
  generalize findI (os.map Rx.toRs) (kd, nm) = R at HR HM ⊢
  go_enter Try.func22, Try.ntmps22
  go_wp2_with fail
  go_loopw [7] (fun t wr => ∃ (i : Nat), t = .int .i64 i ∧ i ≤ n ∧ wr = w ∧ Hid (∀ j r, j < i → (os.map Rx.toRs)[j]? = some r → ¬ r.key = (kd, nm))) (fun t _ => n - (intOf t).toNat)
  case atStart => exact ⟨0, rfl, by omega, rfl, fun j r hj => by omega⟩
  case round =>
    obtain ⟨i, rfl, hi, rfl, HF⟩ := hrel
    have i0 : (0 : Int) ≤ i := by omega
    by_cases h3 : i < n
    · have h3' : (i : Int) < n := by omega
      rcases hki : os[i]? with _ | o
      · have := List.getElem?_eq_none_iff.1 hki; have := HN.out; omega
      obtain ⟨g, off, rfl, c0, c1, c2, c3, c4, c5, c6, c7⟩ := H1.out.cells hki
      have HKO : Hid ((os.map Rx.toRs)[i]? = some o.toRs) := by unfold Hid; simp [hki]
      clear hki c2 c3 c4 c5 c6 c7
      have HX : Hid (¬ o.key = (kd, nm) → ∀ j r, j < i + 1 → (os.map Rx.toRs)[j]? = some r → ¬ r.key = (kd, nm)) := fun hne j r hj hr => by
        by_cases hji : j < i
        · exact HF.out j r hji hr
        · obtain rfl : j = i := by omega
          rw [HKO.out] at hr; cases hr; exact hne
      by_cases e0 : o.kd = kd
      · by_cases e1 : o.nm = nm
        · have HRS := hideL (HR.out i (firstsF_at HF.out HKO.out (show (o.kd, o.nm) = (kd, nm) by rw [e0, e1])))
          rw [e0] at c0
          rw [e1] at c1
          clear e0 e1
          go_wp2
          go_ret
          exact ⟨ret_int HRS.out.symm, rfl⟩
        · have e1' := ba_ne e1
          have HXX := hideL (HX.out (fun h => e1 (congrArg Prod.snd h)))
          rw [e0] at c0
          clear e0 e1
          go_wp2
          go_roundw
          case rel => exact ⟨i + 1, by go_num, by omega, by trivial, HXX.out⟩
          case measure => simp [intOf]; omega
      · have e0' : decide (o.kd = kd) = false := by simpa using e0
        have HXX := hideL (HX.out (fun h => e0 (congrArg Prod.fst h)))
        go_wp2
        go_roundw
        case rel => exact ⟨i + 1, by go_num, by omega, by trivial, HXX.out⟩
        case measure => simp [intOf]; omega
    · have h3' : ¬ (i : Int) < n := by omega
      have HRS := hideL (HM.out (firstsF_no (fun j r hr => HF.out j r (by have := (List.getElem?_eq_some_iff.1 hr).1; simp at this; have := HN.out; omega) hr)))
      go_wp2
      go_ret
      exact ⟨ret_int HRS.out.symm, rfl⟩
end Go.Proofs.Ytmljljpldljpjab
