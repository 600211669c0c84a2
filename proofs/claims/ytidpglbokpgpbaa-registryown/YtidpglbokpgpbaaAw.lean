/- awake. -/
import Derived.Test.YtidpglbokpgpbaaPr
import Derived.Test.YtidpglbokpgpbaaSm
namespace Go.Proofs.Ytidpglbokpgpbaa
open Go.RowKit
set_option linter.unusedVariables false
set_option linter.unusedSimpArgs false
set_option maxRecDepth 100000
theorem vwF_say (r : Rg) : r.vwF = (sayL r.ss).map fun p => (p.1, p.2.filter r.hl) := by unfold Rg.vwF sayL; rw [List.map_map]; rfl
theorem allE_say (os : List Hx) : allE os = (sayL os).flatMap Prod.snd := by unfold allE sayL; rw [List.flatMap_map]; rfl
def nS : ByteArray := ⟨#[115]⟩
def nA : ByteArray := ⟨#[97]⟩
def nB : ByteArray := ⟨#[98]⟩
theorem nAB : nA ≠ nB := by unfold nA nB; intro h; cases h
theorem nBA : nB ≠ nA := fun h => nAB h.symm
theorem uniq_ab : uniq [nA, nB] = [nA, nB] := by simp [uniq, uniqA, nAB, nBA]
def aR (ea : Option Addr) : Rx := ⟨⟨1, nS, [nA, nB], [], ⟨#[]⟩, [], ⟨#[]⟩, false⟩, ea, 2, none, 0, none, 0⟩
theorem svcF_a (ea : Option Addr) : svcF ([aR ea].map Rx.toRs) = [(nS, [nA, nB])] := by
  unfold svcF aR
  simp [uniq_ab]
theorem setA {ea : Option Addr} {r : Rg} {k : Int} (h : SetE ([aR ea].map Rx.toRs) (Rg.new 1 1) r k) : k = 0 ∧ sayL r.ss = [(nS, [nA, nB])] ∧ r.at_ nA = some (St.new 1 1) ∧ r.at_ nB = some (St.new 1 1) ∧ sayL r.vw = [(nS, [nA, nB])] ∧ r.ep = 1 := by
  unfold SetE at h
  rw [svcF_a] at h
  rcases h with ⟨_, _, h⟩ | ⟨h0, h1, h2, h3, h4, h5, h6⟩
  · exact absurd (by simp) h
  · have hs : sayL r.ss = [(nS, [nA, nB])] := List.perm_singleton.1 h1
    have hE : allE r.ss = [nA, nB] := by rw [allE_say, hs]; rfl
    have ha : r.at_ nA = some (St.new 1 1) := (h4 nA).1 (by rw [hE]; simp)
    have hb : r.at_ nB = some (St.new 1 1) := (h4 nB).1 (by rw [hE]; simp)
    have hla : r.hl nA = true := by unfold Rg.hl; rw [ha]; rfl
    have hlb : r.hl nB = true := by unfold Rg.hl; rw [hb]; rfl
    have hv : r.vwF = [(nS, [nA, nB])] := by rw [vwF_say, hs]; simp [hla, hlb]
    rw [hv] at h5 h6
    refine ⟨h0, hs, ha, hb, h5, ?_⟩
    rcases h6 with ⟨h, _⟩ | ⟨_, h⟩
    · cases h
    · exact h
theorem at_some {r : Rg} {k : ByteArray} {s : St} (h : r.at_ k = some s) : ∃ p, r.pl k = some p ∧ r.sf p = s := by
  unfold Rg.at_ at h
  rcases e : r.pl k with _ | p
  · rw [e] at h; cases h
  · rw [e] at h; simp at h; exact ⟨p, rfl, h⟩
theorem down1 : ((St.new 1 1).probe false 0).up = false := by
  unfold St.probe
  rw [if_neg (by simp)]
  rfl
theorem probA {r r' : Rg} {e : Int} (h : ProbE nA false 0 r r' e) (hinj : ∀ k k' p, r.pl k = some p → r.pl k' = some p → k = k') (hs : sayL r.ss = [(nS, [nA, nB])]) (ha : r.at_ nA = some (St.new 1 1)) (hb : r.at_ nB = some (St.new 1 1)) (hv : sayL r.vw = [(nS, [nA, nB])]) (he : r.ep = 1) : e = 0 ∧ sayL r'.vw = [(nS, [nB])] ∧ r'.ep = 2 := by
  obtain ⟨p, p1, p2⟩ := at_some ha
  obtain ⟨q, q1, q2⟩ := at_some hb
  have hne : q ≠ p := fun h => nAB (hinj _ _ _ p1 (h ▸ q1))
  rcases h with ⟨_, h, _⟩ | ⟨p', h0, h1, h2⟩
  · rw [p1] at h; cases h
  · rw [p1] at h1; cases h1
    rw [p2] at h2
    rcases h2 with ⟨h2, _⟩ | ⟨_, h2⟩
    · rw [down1] at h2; cases h2
    · obtain ⟨os, a, c, ep, rfl, h3, h4⟩ := h2
      have hla : (r.prob p false 0).hl nA = false := by
        unfold Rg.hl Rg.at_
        show ((r.pl nA).map (r.prob p false 0).sf).elim false St.up = false
        rw [p1, Option.map_some, prob_sf, p2]; exact down1
      have hlb : (r.prob p false 0).hl nB = true := by
        unfold Rg.hl Rg.at_
        show ((r.pl nB).map (r.prob p false 0).sf).elim false St.up = true
        rw [q1, Option.map_some]
        show (if q = p then _ else r.sf q).up = true
        rw [if_neg hne, q2]; rfl
      have hvw : (r.prob p false 0).vwF = [(nS, [nB])] := by
        rw [vwF_say]
        show (sayL r.ss).map _ = _
        rw [hs]; simp [hla, hlb]
      rw [hvw] at h3 h4
      refine ⟨h0, h3, ?_⟩
      have h4 : (sayL r.vw = [(nS, [nB])] ∧ ep = r.ep) ∨ (sayL r.vw ≠ [(nS, [nB])] ∧ ep = r.ep + 1) := h4
      rw [hv, he] at h4
      rcases h4 with ⟨h4, _⟩ | ⟨_, h4⟩
      · exfalso
        have h6 := congrArg (fun x => x.map fun p => p.2.length) h4
        cases h6
      · exact h4
theorem okS_small {l : List UInt8} (h : l.length ≤ 10) : okS ⟨l.toArray⟩ := by unfold okS; show l.toArray.size ≤ _; simp; omega
theorem cel_one {W : World} {B k : Nat} {t : TypeId} {r : List Value} (h : W.heap[B]? = some (.cells r.toArray t (0, 0))) : Cel W (some ⟨B, 0, none⟩) k [r] := by
  refine .inr ⟨B, 0, rfl, fun i r' hi j u hu => ?_⟩
  obtain rfl : i = 0 := by have := (List.getElem?_eq_some_iff.1 hi).1; simp at this; exact this
  simp at hi
  subst hi
  rw [cell_block h]
  simpa using hu
theorem cel_ab {W : World} {B : Nat} (h : W.heap[B]? = some (.cells #[.string nA, .string nB] 9 (0, 0))) : Cel W (some ⟨B, 0, none⟩) 1 ([nA, nB].map strR) := by
  refine .inr ⟨B, 0, rfl, fun i r' hi j u hu => ?_⟩
  have hi2 := (List.getElem?_eq_some_iff.1 hi).1
  simp at hi2
  have hj : j = 0 := by
    have h1 := (List.getElem?_eq_some_iff.1 hu).1
    have : r'.length = 1 := by
      rw [List.getElem?_map] at hi
      obtain ⟨x, _, rfl⟩ := Option.map_eq_some_iff.1 hi
      rfl
    omega
  subst hj
  rcases (by omega : i = 0 ∨ i = 1) with rfl | rfl
  · simp [strR] at hi; subst hi
    rw [cell_block h]; simpa using hu
  · simp [strR] at hi; subst hi
    rw [cell_block h]; simpa using hu
theorem aR_in {W : World} {g B : Nat} (h1 : W.heap[g]? = some (.cells #[.string nA, .string nB] 9 (0, 0))) (h2 : W.heap[B]? = some (.cells (aR (some ⟨g, 0, none⟩)).row.toArray 44 (0, 0))) : Lr W (some ⟨B, 0, none⟩) [aR (some ⟨g, 0, none⟩)] := by
  refine ⟨fun o ho => ?_, cel_one (r := (aR (some ⟨g, 0, none⟩)).row) h2⟩
  obtain rfl := List.mem_singleton.1 ho
  refine ⟨cel_ab h1, .inl rfl, .inl rfl, by show (-9223372036854775808 : Int) ≤ 1 ∧ (1 : Int) ≤ 9223372036854775807; omega, okS_small (l := [115]) (by decide), okS_small (l := []) (by decide), okS_small (l := []) (by decide), fun x hx => ?_, fun x hx => (by cases hx), fun x hx => (by cases hx), Nat.le_of_ble_eq_true rfl, Nat.le_of_ble_eq_true rfl, Nat.le_of_ble_eq_true rfl⟩
  have hx : x ∈ [nA, nB] := hx
  simp at hx
  rcases hx with rfl | rfl
  · exact okS_small (l := [97]) (by decide)
  · exact okS_small (l := [98]) (by decide)
theorem aR_lr (w : World) : Lr ((w.alloc (.cells #[.string ⟨#[97]⟩, .string ⟨#[98]⟩] 9 (0, 0))).alloc (.cells #[.int .i64 1, .string ⟨#[115]⟩, .slice (some ⟨w.heap.size, 0, none⟩) 2 2, .slice none 0 0, .string ⟨#[]⟩, .slice none 0 0, .string ⟨#[]⟩, .bool false] 44 (0, 0))) (some ⟨w.heap.size + 1, 0, none⟩) [aR (some ⟨w.heap.size, 0, none⟩)] :=
  aR_in ((Gr.alloc _ _).below.cells (Go.heap_alloc_new w _)) (al_at _ (by simp))
set_option maxHeartbeats 16000000 in
theorem awake_any (w : World) : Calls Try.prog 6 #[] w fun e w' => e = .returned (.bool true) ∧ Below w.heap.size w w' := by
  have hn := newR_ok 1 1 w (by decide)
  go_enter Try.func6, Try.ntmps6
  go_wp2_with (go_at_call 7; refine hn.mono ?_; rintro e w1 ⟨b, rfl, hr, hb⟩; have HR1 := hideL hr; have HB1 := hideL hb; clear hr hb hn)
  have hset := set_any _ w.heap.size b 0 _ (HR1.out.below ((Gr.alloc w1 (.cells #[.string ⟨#[97]⟩, .string ⟨#[98]⟩] 9 (0, 0))).trans (Gr.alloc _ (.cells #[.int .i64 1, .string ⟨#[115]⟩, .slice (some ⟨w1.heap.size, 0, none⟩) 2 2, .slice none 0 0, .string ⟨#[]⟩, .slice none 0 0, .string ⟨#[]⟩, .bool false] 44 (0, 0)))).below) (Nat.zero_le _) (some ⟨w1.heap.size + 1, 0, none⟩) 1 1 _ (list_any _ (some ⟨w1.heap.size + 1, 0, none⟩) 1 1 [aR (some ⟨w1.heap.size, 0, none⟩)] rfl (aR_lr w1) (by decide))
  refine hset.mono ?_
  rintro e w2 ⟨k, rfl, r1, hs, hr2, hst⟩
  obtain ⟨rfl, s1, s2, s3, s4, s5⟩ := setA hs
  have HB2 := hideL ((HB1.out.trans (((Gr.alloc w1 (.cells #[.string ⟨#[97]⟩, .string ⟨#[98]⟩] 9 (0, 0))).trans (Gr.alloc _ (.cells #[.int .i64 1, .string ⟨#[115]⟩, .slice (some ⟨w1.heap.size, 0, none⟩) 2 2, .slice none 0 0, .string ⟨#[]⟩, .slice none 0 0, .string ⟨#[]⟩, .bool false] 44 (0, 0)))).below.mono HB1.out.size)).trans (hst.below (by intro k hk; simp at hk; subst hk; exact HR1.out.lo) (Nat.le_trans HB1.out.size ((Gr.alloc w1 (.cells #[.string ⟨#[97]⟩, .string ⟨#[98]⟩] 9 (0, 0))).trans (Gr.alloc _ (.cells #[.int .i64 1, .string ⟨#[115]⟩, .slice (some ⟨w1.heap.size, 0, none⟩) 2 2, .slice none 0 0, .string ⟨#[]⟩, .slice none 0 0, .string ⟨#[]⟩, .bool false] 44 (0, 0)))).below.size)))
  have HR2 := hideL hr2
  have HS := hideL (And.intro s1 (And.intro s2 (And.intro s3 (And.intro s4 s5))))
  have hep := epoch_any w2 w.heap.size b _ r1 hr2
  rw [s5] at hep
  have hep1 : Calls Try.prog 8 #[.pointer (some ⟨b, 0, none⟩)] w2 fun e w' => e = .returned (.int .i64 1) ∧ w' = w2 := hep
  have hpr := probeR_any w2 w.heap.size b _ r1 hr2 (by decide) nA (okS_small (l := [97]) (by decide)) false 0 (by decide)
  unfold nA at hpr
  clear hset hs s1 s2 s3 s4 s5 hst hr2 hep
  go_wp2_with (first
    | (go_at_call 8; refine hep1.mono ?_; rintro e w' ⟨rfl, hw⟩; have hw := hw.symm; subst hw; clear hep1)
    | (go_at_call 11; refine hpr.mono ?_; rintro e w3 ⟨j, rfl, r2, hp, hr3, bs, hst, hbs⟩; have HP := hideL (probA hp HR2.out.inj HS.out.1 HS.out.2.1 HS.out.2.2.1 HS.out.2.2.2.1 HS.out.2.2.2.2); obtain rfl := HP.out.1; have HR3 := hideL hr3; have HB3 := hideL (HB2.out.trans (hst.below (fun k hk => by obtain ⟨_, _, _, _, h, _⟩ := hbs k hk; exact h) HB2.out.size)); have hvw := view_any w3 w.heap.size b _ r2 hr3; clear hpr hp hr3 hst hbs)
    | (go_at_call 9; refine hvw.mono ?_; rintro e w4 ⟨v, rfl, os, hos, hsy, hb4⟩; clear hvw))
  have hsy2 : sayL os = [(nS, [nB])] := hsy.trans HP.out.2.1
  obtain ⟨o, rfl⟩ : ∃ o, os = [o] := by
    have := congrArg List.length hsy2
    unfold sayL at this
    rw [List.length_map] at this
    exact List.length_eq_one_iff.1 this
  obtain ⟨sv, eps, ea, ec⟩ := o
  have hp : (sv, eps) = (nS, [nB]) := by simpa [sayL, Hx.says] using hsy2
  obtain ⟨rfl, rfl⟩ := Prod.mk.injEq _ _ _ _ ▸ hp
  obtain ⟨a, c, rfl⟩ := hos.form
  have hos1 : Ov w4 w3.heap.size 47 (.slice a 1 c) [⟨nS, [nB], ea, ec⟩] := hos
  obtain ⟨g, off, rfl, d0, d1⟩ := hos1.at_ (i := 0) rfl
  obtain ⟨g2, off2, he, d2⟩ := (hos1.each _ (List.mem_singleton.2 rfl)).cel.at_ (i := 0) (x := nB) rfl
  have d2 := d2 0 _ rfl
  have he : ea = some ⟨g2, off2, none⟩ := he
  subst he
  have HB4 := hideL (HB3.out.trans (hb4.mono HB3.out.size))
  have hep := epoch_any w4 w.heap.size b _ r2 (HR3.out.below hb4)
  rw [HP.out.2.2] at hep
  have hep2 : Calls Try.prog 8 #[.pointer (some ⟨b, 0, none⟩)] w4 fun e w' => e = .returned (.int .i64 2) ∧ w' = w4 := hep
  rw [Nat.zero_mul, Nat.add_zero] at d0 d1 d2
  have d1 : w4.cell? ⟨g, off + 1, none⟩ = some (.slice (some ⟨g2, off2, none⟩) 1 ec) := d1
  unfold nB at d2
  dsimp only at d0
  clear hp hsy hsy2 hos hos1 hep HS HP HR3
  show Calls Try.prog 8 _ _ _
  refine hep2.mono ?_
  rintro e w' ⟨rfl, hw⟩
  have hw := hw.symm
  subst hw
  go_wp2_with fail
  go_ret
  exact ⟨rfl, HB4.out⟩
end Go.Proofs.Ytidpglbokpgpbaa
