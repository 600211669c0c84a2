/-
  The document's May, Depth and deep.
-/
import Derived.Test.YtgododijnogegaaGr2
import Derived.Test.YtgododijnogegaaDep
namespace Go.Proofs.Ytgododijnogegaa
open Go.RowKit
set_option linter.unusedVariables false
set_option linter.unusedSimpArgs false
set_option maxRecDepth 100000
theorem high_pos (t : Tr) : 0 < t.high := by cases t; simp [Tr.high]
/-- a whole tree -/
def Whole (l : List Nx) (t : Tr) : Prop := l.length ≤ 4096 ∧ trT l 16 0 = some (t, l.length) ∧ t.key = ByteArray.empty
theorem whole_dep {l : List Nx} {t : Tr} (h : Whole l t) : depF l = t.high := by
  obtain ⟨h1, h2, h3⟩ := h
  obtain ⟨o, ho, hk⟩ := trT_key h2
  have hs := sub_tr l 16 0
  rw [h2] at hs
  unfold depF
  rw [ho]
  dsimp only
  rw [if_pos ⟨h1, by rw [← hk]; exact h3⟩]
  unfold depR
  rw [hs]
  simp
theorem dep_whole {l : List Nx} (h : 0 < depF l) : ∃ t, Whole l t := by
  unfold depF at h
  rcases ho : l[0]? with _ | o
  · rw [ho] at h; simp at h
  · rw [ho] at h
    dsimp only at h
    split at h
    · rename_i h1
      unfold depR at h
      rw [sub_tr] at h
      rcases ht : trT l 16 0 with _ | ⟨t, e⟩
      · rw [ht] at h; simp at h
      · rw [ht] at h
        simp only [Option.map] at h
        split at h
        · rename_i he
          subst he
          obtain ⟨o2, ho2, hk⟩ := trT_key ht
          rw [ho] at ho2; cases ho2
          exact ⟨t, h1.1, ht, by rw [hk]; exact h1.2⟩
        · omega
    · omega
theorem not_whole {l : List Nx} (h : ∀ t, ¬ Whole l t) : depF l = 0 := by
  by_cases h0 : 0 < depF l
  · obtain ⟨t, ht⟩ := dep_whole h0; exact absurd ht (h t)
  · omega
theorem whole_may {l : List Nx} {t : Tr} (h : Whole l t) : decide (0 < depF l) = true := by rw [whole_dep h]; simpa using high_pos t
theorem not_may {l : List Nx} (h : ∀ t, ¬ Whole l t) : decide (0 < depF l) = false := by rw [not_whole h]; rfl
set_option maxHeartbeats 4000000 in
theorem rmay_any (w : World) (a : Option Addr) (n cap : Nat) (l : List Nx) (hn : l.length = n) (hl : n ≤ 17592186043904) (hS : Ns w a l) :
    Calls Try.prog 16 #[.slice a n cap] w fun e w' => e = .returned (.bool (decide (0 < depF l))) ∧ Below w.heap.size w w' := by
  by_cases h1 : 4096 < n
  · have h1' : (4096 : Int) < n := by omega
    have HE := hideL (not_may (l := l) (fun t ht => by have := ht.1; omega))
    clear hS hn
    go_enter Try.func16, Try.ntmps16
    go_wp2
    go_ret
    rw [HE.out]
    exact ⟨rfl, Below.refl _ _⟩
  · have h1' : ¬ (4096 : Int) < n := by omega
    have HC := hideL (grown_any a n cap l hn hl 16 1 rfl w 0 hS (by omega))
    have HN := hideL hn
    clear hS hn
    go_enter Try.func16, Try.ntmps16
    go_wp2_with fail
    refine HC.out.mono ?_
    rintro e w1 ⟨hb, hE⟩
    have HB := hideL hb
    clear hb
    rcases ht : trT l 16 0 with _ | ⟨t, b⟩
    · rw [ht] at hE
      dsimp only at hE
      subst hE
      have HE := hideL (not_may (l := l) (fun t h => by have := h.2.1; rw [ht] at this; cases this))
      clear ht HC
      go_wp2
      go_ret
      rw [HE.out]
      exact ⟨rfl, HB.out⟩
    · rw [ht] at hE
      dsimp only at hE
      obtain ⟨p, rfl, hT⟩ := hE
      obtain ⟨zk, _, _⟩ := hT.cells
      by_cases hb : b = n
      · subst hb
        by_cases hk : t.key = ByteArray.empty
        · have HE := hideL (whole_may (l := l) (t := t) ⟨by rw [HN.out]; omega, by rw [ht, HN.out], hk⟩)
          rw [hk] at zk
          clear ht HC hT
          go_wp2
          go_ret
          rw [HE.out]
          exact ⟨rfl, HB.out⟩
        · have HE := hideL (not_may (l := l) (fun t2 h => by have := h.2.1; rw [ht] at this; cases this; exact hk h.2.2))
          have hk' := isEmpty_no hk
          clear ht HC hT
          go_wp2
          go_ret
          rw [HE.out]
          exact ⟨rfl, HB.out⟩
      · have HE := hideL (not_may (l := l) (fun t2 h => by have := h.2.1; rw [ht] at this; cases this; exact hb HN.out))
        have hb' : ¬ (b : Int) = n := by omega
        clear ht HC hT
        go_wp2
        go_ret
        rw [HE.out]
        exact ⟨rfl, HB.out⟩
theorem high_kid {ts : List Tr} {i : Nat} {t : Tr} (h : ts[i]? = some t) : t.high ≤ highs ts := by
  induction ts generalizing i with
  | nil => simp at h
  | cons x ts ih =>
    cases i with
    | zero => simp at h; subst h; simp [highs]; omega
    | succ i => have := ih (i := i) (by simpa using h); simp [highs]; omega
theorem highs_take_succ {ts : List Tr} {i : Nat} {t : Tr} (h : ts[i]? = some t) : highs (ts.take (i + 1)) = max (highs (ts.take i)) t.high := by
  rw [List.take_add_one, h, Option.toList_some, highs_snoc]
theorem highs_take_le (ts : List Tr) (i : Nat) : highs (ts.take i) ≤ highs ts := by
  induction ts generalizing i with
  | nil => simp
  | cons x ts ih =>
    cases i with
    | zero => simp [highs]
    | succ i => have := ih i; simp [highs]; omega
set_option maxHeartbeats 4000000 in
theorem deep_any (w : World) (F : Nat → Prop) : ∀ (h : Nat) (t : Tr) (p : Nat), t.high ≤ h → h ≤ 1000 → TrIn w F t p →
    Calls Try.prog 32 #[.pointer (some ⟨p, 0, none⟩)] w fun e w' => e = .returned (.int .i64 t.high) ∧ w' = w := by
  intro h
  induction h with
  | zero => intro t p h0 _ _; have := high_pos t; omega
  | succ h ih =>
    intro t p hh hm hT
    obtain ⟨kd, key, tx, quo, ln, kids⟩ := t
    rw [TrIn] at hT
    obtain ⟨_, _, v, ps, hb, _, hown, hkids0⟩ := hT
    have hkids : TrsIn w F kids ps := TrsIn.turn (fun k hk => hk.1) (fun k hk => rfl) kids ps hkids0
    clear hkids0
    have hhi : highs kids ≤ h := by simp [Tr.high] at hh; omega
    obtain ⟨ao, cp, rfl, _, hlc, hcm⟩ := own_form hown
    obtain ⟨K, hK⟩ : ∃ K, kids.length = K := ⟨_, rfl⟩
    rw [hK] at hown hlc
    have z5 : w.cell? ⟨p, 5, none⟩ = some (.slice ao K cp) := by rw [cell_block hb, hK]; rfl
    have hKm : K ≤ maxLen := by omega
    have HO := hideL hown
    have HKD := hideL hkids
    have HKL := hideL hK
    have HI := hideL ih
    have HH : Hid (Tr.high (.node kd key tx quo ln kids) = highs kids + 1) := by show _ = _; simp [Tr.high]
    clear hb hown hkids hK ih hh
    unfold maxLen at hKm
    go_enter Try.func32, Try.ntmps32
    go_wp2_with fail
    go_loopw [3, 4] (fun u t wr => ∃ (i m : Nat), u = .int .i64 m ∧ t = .int .i64 i ∧ i ≤ K ∧ m ≤ h ∧ Hid (highs (kids.take i) = m) ∧ wr = w) (fun _ t _ => K - (intOf t).toNat)
    case atStart => exact ⟨0, 0, rfl, rfl, by omega, by omega, rfl, rfl⟩
    case round =>
      obtain ⟨i, m, rfl, rfl, hi, hmh, HM, rfl⟩ := hrel
      have i0 : (0 : Int) ≤ i := by omega
      by_cases h3 : i < K
      · have h3' : (i : Int) < K := by omega
        rcases hki : kids[i]? with _ | t2
        · have := List.getElem?_eq_none_iff.1 hki; have := HKL.out; omega
        obtain ⟨p2, hp2, hT2⟩ := HKD.out.at_ hki
        obtain ⟨r, rfl⟩ := own_some HO.out (by omega)
        have zr : wr.cell? ⟨r, i, none⟩ = some (.pointer (some ⟨p2, 0, none⟩)) := by rw [HO.out.cellAt i (by omega)]; exact ptrs_at hp2
        have hk2 := high_kid hki
        have HC := hideL (HI.out t2 p2 (by omega) (by omega) hT2)
        have HS := hideL (highs_take_succ hki)
        have HLE := hideL (highs_take_le kids (i + 1))
        obtain ⟨m2, hm2⟩ : ∃ m2, t2.high = m2 := ⟨_, rfl⟩
        rw [hm2] at HC HS hk2
        clear hki hp2 hT2 hm2
        go_wp2_with fail
        refine HC.out.mono ?_
        rintro e w1 ⟨rfl, rfl⟩
        go_wp2_with fail
        go_roundw
        case rel => exact ⟨i + 1, max m m2, by congr 1; omega, by go_num, by omega, by omega, by show _ = _; rw [HS.out, HM.out], by trivial⟩
        case measure => simp [intOf]; omega
      · have h3' : ¬ (i : Int) < K := by omega
        have HF : Hid (highs kids = m) := by
          have := HM.out
          rw [List.take_of_length_le (by rw [HKL.out]; omega)] at this
          exact this
        go_wp2
        go_ret
        rw [HH.out, HF.out]
        exact ⟨by go_num, rfl⟩
set_option maxHeartbeats 4000000 in
theorem rdepth_any (w : World) (a : Option Addr) (n cap : Nat) (l : List Nx) (hn : l.length = n) (hl : n ≤ 17592186043904) (hS : Ns w a l) :
    Calls Try.prog 18 #[.slice a n cap] w fun e w' => e = .returned (.int .i64 (depF l)) ∧ Below w.heap.size w w' := by
  have HC := hideL (rmay_any w a n cap l hn hl hS)
  have HS := hideL hS
  have HN := hideL hn
  clear hS hn
  go_enter Try.func18, Try.ntmps18
  go_wp2_with fail
  refine HC.out.mono ?_
  rintro e w1 ⟨rfl, hb⟩
  have HB := hideL hb
  clear hb
  by_cases h0 : 0 < depF l
  · obtain ⟨t, ht⟩ := dep_whole h0
    have hd : decide (0 < depF l) = true := by simpa using h0
    rw [hd]
    have HD := hideL (whole_dep ht)
    have hr : trT l 16 0 = some (t, n) := by rw [← HN.out]; exact ht.2.1
    have HR := hideL hr
    clear ht h0 hd hr
    go_wp2_with fail
    refine (grown_any a n cap l HN.out hl 16 1 rfl w1 0 (HS.out.below HB.out) (by omega)).mono ?_
    rintro e w2 ⟨hb2, hE⟩
    rw [HR.out] at hE
    dsimp only at hE
    obtain ⟨p, rfl, hT⟩ := hE
    have HB2 := hideL (HB.out.trans (hb2.mono HB.out.size))
    have HT := hideL hT
    have hh : t.high ≤ 16 := (trT_in HR.out).2.2
    clear hb2 hT
    go_wp2_with fail
    refine (deep_any w2 _ 16 t p hh (by omega) HT.out).mono ?_
    rintro e w3 ⟨rfl, rfl⟩
    go_wp2
    go_ret
    rw [HD.out]
    exact ⟨rfl, HB2.out⟩
  · have hd : decide (0 < depF l) = false := by simpa using h0
    rw [hd]
    have HD : Hid (depF l = 0) := by show _ = _; omega
    clear h0 hd
    go_wp2
    go_ret
    rw [HD.out]
    exact ⟨rfl, HB.out⟩
end Go.Proofs.Ytgododijnogegaa
