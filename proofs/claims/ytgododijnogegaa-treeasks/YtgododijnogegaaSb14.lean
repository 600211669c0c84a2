/-
  Sub: a part of a tree, in new memory.
-/
import Derived.Test.YtgododijnogegaaMvd
import Derived.Test.YtgododijnogegaaPrt
import Derived.Test.YtgododijnogegaaLd
namespace Go.Proofs.Ytgododijnogegaa
open Go.RowKit
set_option linter.unusedVariables false
set_option linter.unusedSimpArgs false
set_option maxRecDepth 100000
/-- what Sub answers -/
def subF (l : List Nx) (z : Int) : List Nd := if 0 < depF l ∧ 0 ≤ z ∧ z < l.length then (match trT l 16 z.toNat with | some (_, e) => partL l z.toNat e | none => []) else []
theorem subF_no {l : List Nx} {z : Int} (h : ¬ (0 < depF l ∧ 0 ≤ z ∧ z < l.length)) : subF l z = [] := by unfold subF; rw [if_neg h]
theorem subF_at {l : List Nx} {q e : Nat} {t : Tr} (h : 0 < depF l) (hq : q < l.length) (ht : trT l 16 q = some (t, e)) : subF l q = partL l q e := by
  unfold subF
  rw [if_pos ⟨h, by omega, by omega⟩, Int.toNat_natCast, ht]
theorem starts_in (ts : List Tr) (p : Nat) : ∀ k ∈ starts ts p, (p : Int) ≤ k ∧ k < p + sizes ts := by
  induction ts generalizing p with
  | nil => intro k hk; cases hk
  | cons t ts ih =>
    intro k hk
    rw [starts] at hk
    have := size_pos t
    rcases List.mem_cons.1 hk with rfl | hk
    · simp only [sizes]; omega
    · have := ih _ k hk
      simp only [sizes]; omega
/-- a node of a tree: its kids are numbers of the list -/
theorem flat_in {l : List Nx} {f q e : Nat} {t : Tr} (h : trT l f q = some (t, e)) {q' : Nat} {o : Nx} (h1 : q ≤ q') (h2 : q' < e) (ho : l[q']? = some o) : (∀ k ∈ o.ks, 0 ≤ k ∧ k ≤ (l.length : Int)) ∧ o.ks.length ≤ l.length := by
  obtain ⟨⟨t', e'⟩, hr⟩ := trT_part f q e t h q' h1 h2
  obtain ⟨h3, h4⟩ := trT_flat f q' e' t' hr
  have hin := trT_in hr
  obtain ⟨kd, key, tx, quo, ln, kids⟩ := t'
  rw [Tr.flat] at h4
  have hq := List.getElem?_eq_some_iff.1 ho
  have e2 : e' - q' = (e' - (q' + 1)) + 1 := by omega
  rw [e2, List.drop_eq_getElem_cons hq.1, hq.2, List.take_succ_cons, List.map_cons] at h4
  injection h4 with h5 h6
  have h7 : starts kids (q' + 1) = o.ks := congrArg Nd.ks h5
  rw [Tr.size] at h3
  refine ⟨fun k hk => ?_, ?_⟩
  · rw [← h7] at hk
    have := starts_in kids (q' + 1) k hk
    omega
  · rw [← h7, starts_length]
    have := len_sizes kids
    omega
theorem Own.app {w w3 : World} {base : Nat} {v v3 : Value} {os : List Nx} {o : Nx} {ob : Obj} (h : Own w base v os) (hr : w3.ownsRow base 51 6 v3 (os.length + 1) (rowsN os ++ o.row)) (hg : (w.alloc ob).grownBy w3 v.ownBlock) (ho : w.ownsRow base 3 1 o.kv o.n (iV o.ks)) (hn : o.n ≤ 17592186043904) : Own w3 base v3 (os ++ [o]) := by
  have hb : ∀ k, k < w.heap.size → v.ownBlock ≠ some k → w3.heap[k]? = w.heap[k]? := fun k hk hne => (hg.block k (by simp; omega) (fun e => hne e.symm)).trans (Below.heap_alloc w ob k hk)
  exact Own.snoc h hr (fun x hx k hk => hb k ((h.kids x hx).1.lt k hk).2 (h.ne hx hk)) (own_block ho (fun k hk => hb k (ho.lt k hk).2 (fun e => own_ne ho h.row hk e))) hn
/-- the first node's key taken away -/
theorem Own.bare {w : World} {base g m cp : Nat} {o : Nx} {os : List Nx} (h : Own w base (.slice (some ⟨g, 0, none⟩) m cp) (o :: os)) (hm : m = (o :: os).length) : Own (w.setCell ⟨g, 1, none⟩ (.string ByteArray.empty)) base (.slice (some ⟨g, 0, none⟩) m cp) ({ o with key := ByteArray.empty } :: os) := by
  have hr := h.row
  rw [← hm] at hr
  have ho : ∀ k, k ≠ g → (w.setCell ⟨g, 1, none⟩ (.string ByteArray.empty)).heap[k]? = w.heap[k]? := fun k hk => Below.heap_setCell _ _ _ _ hk
  refine ⟨?_, fun x hx => ?_⟩
  · have h1 := (hr.stored 1 (.string ByteArray.empty)).1
    have e3 : (({ o with key := ByteArray.empty } : Nx) :: os).length = m := by rw [hm]; rfl
    rw [e3]
    exact h1
  · have hx' : w.ownsRow base 3 1 x.kv x.n (iV x.ks) ∧ x.n ≤ 17592186043904 := by
      rcases List.mem_cons.1 hx with rfl | hx
      · exact h.kids o (by simp)
      · exact h.kids x (by simp [hx])
    exact ⟨own_block hx'.1 (fun k hk => ho k (fun e => by subst e; exact own_ne hx'.1 hr hk rfl)), hx'.2⟩
theorem Tch.below {w w3 : World} {base m : Nat} {v : Value} {xs : List Value} {ob : Obj} (h : w.ownsRow base 51 6 v m xs) (hbase : base ≤ w.heap.size) (hg : (w.alloc ob).grownBy w3 v.ownBlock) : Below base w w3 := by
  refine ⟨hg.os, hg.tape, hg.output, Nat.le_trans (by simp) hg.size, fun k hk => ?_⟩
  exact (hg.block k (by simp; omega) (fun e => by have := (h.lt k e.symm).1; omega)).trans (Below.heap_alloc w ob k (by omega))
theorem take_nd {l : List Nx} {q i : Nat} {o : Nx} (h : l[q + i]? = some o) : ((l.drop q).take (i + 1)).map Nx.nd = ((l.drop q).take i).map Nx.nd ++ [o.nd] := by
  have : (l.drop q)[i]? = some o := by rw [List.getElem?_drop]; exact h
  rw [List.take_add_one, this, Option.toList_some, List.map_append]; rfl
theorem moved_call (w : World) (o : Nx) (d : Nat) (hin : Nin w o) (hd : d ≤ 4096) (hk : ∀ k ∈ o.ks, 0 ≤ k ∧ k ≤ 4096) (hn : o.n ≤ 4096) (hs1 : o.key.size ≤ 281474976710656) (hs2 : o.tx.size ≤ 281474976710656) :
    Calls Try.prog 29 #[.agg #[.int .i64 o.kd, .string o.key, .string o.tx, .bool o.quo, .int .i64 o.ln, .slice o.a o.n o.cap], .int .i64 d] w fun e w' => ∃ a c, e = .returned (.agg #[.int .i64 o.kd, .string o.key, .string o.tx, .bool o.quo, .int .i64 o.ln, .slice a o.n c]) ∧ w'.ownsRow w.heap.size 3 1 (.slice a o.n c) o.n (iV (o.ks.map (· - (d : Int)))) ∧ Below w.heap.size w w' :=
  moved_any w o d hin hd hk hn hs1 hs2
set_option maxHeartbeats 8000000 in
theorem sub_call (w : World) (a : Option Addr) (n cap : Nat) (l : List Nx) (z : Int) (hn : l.length = n) (hl : n ≤ 17592186043904) (hcap : n ≤ cap) (hcm : cap ≤ maxLen) (hS : Ns w a l) (hL : Low w.heap.size a l) (hstr : ∀ o ∈ l, o.key.size ≤ 281474976710656 ∧ o.tx.size ≤ 281474976710656) (hz : -9223372036854775808 ≤ z ∧ z ≤ 9223372036854775807) :
    Calls Try.prog 14 #[.slice a n cap, .int .i64 z] w fun e w' => ∃ v os, e = .returned v ∧ Own w' w.heap.size v os ∧ os.map Nx.nd = subF l z ∧ Below w.heap.size w w' := by
  have HMAY := hideL (may_any w a n cap l hn (by omega) hS hL (unlike_any _ _ _ _ _) (noKeys_any _ _ _ _ _))
  have HS := hideL hS
  have HN := hideL hn
  have HSTR := hideL hstr
  clear hS hn hL hstr
  by_cases h0 : 0 ≤ z ∧ z < n
  · obtain ⟨q, rfl⟩ : ∃ q : Nat, z = q := ⟨z.toNat, by omega⟩
    obtain ⟨h0, h1⟩ := h0
    have hd1 : decide ((0 : Int) ≤ q ∧ (q : Int) < n) = true := by simp [h1]
    by_cases hd : 0 < depF l
    · obtain ⟨t0, ht0⟩ := dep_whole hd
      have hq : q < l.length := by rw [HN.out]; omega
      obtain ⟨t, e, ht⟩ := whole_part ht0 hq
      have hqe := trT_in ht
      have hnl := HN.out
      have hn4 : n ≤ 4096 := by have := ht0.1; omega
      have hqe1 : q < e := hqe.1
      have hqe2 : e ≤ n := by omega
      have HE := hideL (trT_ends 16 q e t ht)
      have HT := hideL ht
      have HF := hideL (subF_at hd hq ht)
      have hdd : decide (0 < depF l) = true := by simpa using hd
      obtain ⟨i51, hi51, hx0, hx1, hx2⟩ := info_parts Try.info51
      rcases HS.out.row with hx | ⟨g, off, rfl, hc⟩
      · rw [hx] at hq; simp at hq
      have HC := hideL hc
      clear ht0 hqe hnl hd ht hc hq
      rw [hdd] at HMAY
      go_enter Try.func14, Try.ntmps14
      obtain ⟨D, hD⟩ : ∃ D, e = q + D := ⟨e - q, by omega⟩
      subst hD
      have hDI : ((q + D : Nat) : Int) - q = D := by omega
      have hDn : D ≤ 4096 := by omega
      have hD0 : 0 < D := by omega
      go_wp2_with first
        | (go_at_call 27; refine (within_any w _ n cap q).mono ?_; rintro e' w0 ⟨rfl, hw0⟩; have hw0 := hw0.symm; subst hw0; rw [hd1])
        | (go_at_call 15; refine HMAY.out.mono ?_; rintro e' w1 ⟨rfl, hb1⟩; have HB1 := hideL hb1; clear hb1)
        | (go_at_call 28; refine (end_any w1 (some ⟨g, off, none⟩) n cap l q (q + D) HN.out (by omega) (HS.out.below HB1.out) HE.out).mono ?_; rintro e2 w2 ⟨rfl, m2, hw2⟩; have hw2 := hw2.symm; subst hw2)
        | (at_make; refine wpList_make_own _ rfl (.const (.int .i64 0)) (.tmp 21) 41 rfl w1.heap.size 51 i51 _ 6 Try.underlying41 hi51 hx0 hx1 .i64 .i64 ((q : Int) + D - q) D rfl rfl (by omega) (by rw [hx2]; omega) (by unfold maxLen; omega) (Nat.le_refl _) ?_; intro w3 hown3 hgrow3; have HO3 := hideL hown3; have HG3 := hideL hgrow3; clear hown3 hgrow3)
      have HB3 : Hid (Below w.heap.size w w3) := HB1.out.trans ((below_drewN (Below.refl w1.heap.size w1) m2).grown HG3.out (Nat.le_refl _) (fun k h => by cases h) |>.mono HB1.out.size)
      have HO3' : Hid (Own w3 w.heap.size (.slice (some ⟨w1.heap.size, 0, none⟩) 0 D) []) := ⟨own_low' HO3.out HB1.out.size, fun o h => by cases h⟩
      have hw31 : w.heap.size ≤ w1.heap.size := HB1.out.size
      refine (end_any w3 (some ⟨g, off, none⟩) n cap l q (q + D) HN.out (by omega) (HS.out.below HB3.out) HE.out).mono ?_
      rintro e2 w4 ⟨rfl, m4, hw4⟩
      have hw4 := hw4.symm
      subst hw4
      have hqD : (q : Int) ≤ ((q + D : Nat) : Int) := by omega
      have hDc : ((q + D : Nat) : Int) ≤ cap := by omega
      clear HO3 HG3 HE HMAY
      have HB4 : Hid (Below w.heap.size w (w3.drewN m4)) := below_drewN HB3.out _
      have HO4 : Hid (Own (w3.drewN m4) w.heap.size (.slice (some ⟨w1.heap.size, 0, none⟩) 0 D) []) := HO3'.out.below (below_drewN (Below.refl _ _) _)
      go_wp2_with fail
      rw [show q + D - q = D by omega]
      clear HO3' HB3
      go_loopw [5, 30] (fun v t wr => ∃ (i : Nat) (ns : List Nx), t = .int .i64 i ∧ i ≤ D ∧ Own wr w.heap.size v ns ∧ Hid (ns.map Nx.nd = (((l.drop q).take i).map Nx.nd).map (Nd.less q)) ∧ Below w.heap.size w wr) (fun _ t _ => D - (intOf t).toNat)
      case atStart => exact ⟨0, [], rfl, by omega, HO4.out, by show _ = _; simp, HB4.out⟩
      case round =>
        obtain ⟨i, ns, rfl, hi, hown, HND, hbel⟩ := hrel
        have i0 : (0 : Int) ≤ i := by omega
        have hnl : ns.length = i := by
          have := congrArg List.length HND.out
          have h2 := HN.out
          simp at this
          omega
        have hrow := hown.row
        rw [hnl] at hrow
        obtain ⟨va, vc, rfl, _, hvc, hvm⟩ := own_form hrow
        have HOW := hideL hown
        have HROW := hideL hrow
        have HB := hideL hbel
        have HNL := hideL hnl
        by_cases h3 : i < D
        · have h3' : (i : Int) < D := by omega
          rcases hoi : l[q + i]? with _ | o
          · have := List.getElem?_eq_none_iff.1 hoi; have := HN.out; omega
          have cc : ∀ j u, o.row[j]? = some u → wr.cell? ⟨g, off + q * 6 + i * 6 + j, none⟩ = some u := fun j u hu => by
            have := HC.out (q + i) o hoi j u hu
            rw [show off + (q + i) * 6 + j = off + q * 6 + i * 6 + j by omega] at this
            exact cell_of_below (Below.mono (hbel) (Nat.le_refl _)) this
          have c0 := cc 0 _ rfl
          have c1 := cc 1 _ rfl
          have c2 := cc 2 _ rfl
          have c3 := cc 3 _ rfl
          have c4 := cc 4 _ rfl
          have c5 := cc 5 _ rfl
          rw [Nat.add_zero] at c0
          have hmem := List.mem_of_getElem? hoi
          have hfl := flat_in HT.out (q' := q + i) (by omega) (by omega) hoi
          have hin : Nin wr o := (HS.out.below hbel).each o hmem
          have hon : o.n ≤ 4096 := by have := hin.len; have := hfl.2; have := HN.out; omega
          have HMV := hideL (moved_call (wr.alloc (.cells o.row.toArray 51)) o q { hin with nums := hin.nums.below ((Below.refl _ _).alloc (Nat.le_refl _) _) } (by omega) (fun k hk => ⟨(hfl.1 k hk).1, by have := (hfl.1 k hk).2; have := HN.out; omega⟩) hon (HSTR.out o hmem).1 (HSTR.out o hmem).2)
          have HTN := hideL (take_nd hoi)
          clear hown hrow hbel hnl hoi cc hmem hfl hin
          go_wp2_with fail
          refine HMV.out.mono ?_
          rintro e' w5 ⟨na, nc, rfl, hko, hb5⟩
          have hb5w : Below wr.heap.size wr w5 := ((Below.refl _ wr).alloc (Nat.le_refl _) _).trans (hb5.mono (by simp))
          have HOW5 := hideL (HOW.out.below hb5w)
          have HB5 := hideL (HB.out.trans (hb5w.mono HB.out.size))
          have HA : Hid ((w5.alloc (Obj.cells #[.int .i64 o.kd, .string o.key, .string o.tx, .bool o.quo, .int .i64 o.ln, .slice na o.n nc] 51)).ownsRow w.heap.size 51 6 (.slice va i vc) i (rowsN ns)) := by
            have h1 := HOW5.out.row
            rw [HNL.out] at h1
            exact h1.alloc _
          have HKO : Hid (w5.ownsRow w.heap.size 3 1 (.slice na o.n nc) o.n (iV (o.ks.map (· - (q : Int))))) := own_low' hko (by have := HB.out.size; simp; omega)
          have hw5 : w.heap.size ≤ (w5.alloc (Obj.cells #[.int .i64 o.kd, .string o.key, .string o.tx, .bool o.quo, .int .i64 o.ln, .slice na o.n nc] 51)).heap.size := by have := HB5.out.size; simp; omega
          clear hko hb5 hb5w HMV c0 c1 c2 c3 c4 c5
          go_wp2_with (at_builtin; refine wpList_append_at _ rfl (.tmp 34) (.tmp 38) 41 rfl w.heap.size 51 i51 _ 6 80 Try.underlying41 hi51 hx0 hx1 hx2 rfl (by decide) (.slice va i vc) i (rowsN ns) rfl HA.out ⟨w5.heap.size, 0, none⟩ 1 1 (Nx.row ⟨o.kd, o.key, o.tx, o.quo, o.ln, na, o.n, nc, o.ks.map (· - (q : Int))⟩) rfl rfl (World.news_of_block (Go.heap_alloc_new w5 _)) (row_one _) (by unfold maxLen; omega) (by omega) hw5 ?_; intro v6 w6 hown6 hgrow6 hat6; have HO6 := hideL (Own.app (o := ⟨o.kd, o.key, o.tx, o.quo, o.ln, na, o.n, nc, o.ks.map (· - (q : Int))⟩) HOW5.out (by rw [HNL.out]; exact hown6) hgrow6 HKO.out (by show o.n ≤ _; omega)); have HB6 := hideL (HB5.out.trans (Tch.below HOW5.out.row HB5.out.size hgrow6)); clear hown6 hgrow6 hat6)
          go_roundw
          case rel =>
            refine ⟨i + 1, _, by go_num, by omega, HO6.out, ?_, HB6.out⟩
            show _ = _
            rw [HTN.out, List.map_append, List.map_append, HND.out]
            rfl
          case measure => simp [intOf]; omega
        · have h3' : ¬ (i : Int) < D := by omega
          obtain rfl : i = D := by omega
          obtain ⟨g2, rfl⟩ := own_some HROW.out (by omega)
          rcases ns with _ | ⟨o0, os0⟩
          · have := HNL.out; simp at this; omega
          have zc : wr.cell? ⟨g2, 1, none⟩ = some (.string o0.key) := by
            rw [HROW.out.cellAt 1 (by omega)]
            exact rowsN_at (o0 :: os0) 0 o0 rfl 1 (.string o0.key) rfl
          have zf : wr.frozen? ⟨g2, 1, none⟩ = false := HROW.out.frozenAt 1
          have HOB : Hid (Own (wr.setCell ⟨g2, 1, none⟩ (.string ByteArray.empty)) w.heap.size (.slice (some ⟨g2, 0, none⟩) i vc) ({ o0 with key := ByteArray.empty } :: os0)) := Own.bare (by have := HOW.out; exact this) HNL.out.symm
          have HBB : Hid (Below w.heap.size w (wr.setCell ⟨g2, 1, none⟩ (.string ByteArray.empty))) := HB.out.trans ⟨rfl, rfl, rfl, by simp, fun k hk => Below.heap_setCell _ _ _ _ (by have := (HROW.out.lt g2 rfl).1; show k ≠ g2; omega)⟩
          have hi0 : (0 : Int) < i := by omega
          clear hown hrow hbel hnl
          go_wp2
          go_ret
          refine ⟨_, rfl, _, HOB.out, ?_, HBB.out⟩
          rw [HF.out, partL, show q + i - q = i by omega, ← HND.out]
          rfl
    · have hdd : decide (0 < depF l) = false := by simpa using hd
      have HF := hideL (subF_no (l := l) (z := q) (fun h => hd h.1))
      rw [hdd] at HMAY
      clear hd
      go_enter Try.func14, Try.ntmps14
      go_wp2_with first
        | (go_at_call 27; refine (within_any w _ n cap q).mono ?_; rintro e' w0 ⟨rfl, hw0⟩; have hw0 := hw0.symm; subst hw0; rw [hd1])
        | (go_at_call 15; refine HMAY.out.mono ?_; rintro e' w1 ⟨rfl, hb1⟩; have HB1 := hideL hb1; clear hb1)
      go_ret
      exact ⟨_, [], rfl, Own.nil _ _, HF.out.symm, HB1.out⟩
  · have hd1 : decide (0 ≤ z ∧ z < (n : Int)) = false := by simpa using h0
    have HF := hideL (subF_no (l := l) (z := z) (fun h => h0 ⟨h.2.1, by rw [← HN.out]; exact h.2.2⟩))
    clear h0
    go_enter Try.func14, Try.ntmps14
    go_wp2_with (go_at_call 27; refine (within_any w _ n cap z).mono ?_; rintro e' w0 ⟨rfl, hw0⟩; have hw0 := hw0.symm; subst hw0; rw [hd1])
    go_ret
    exact ⟨_, [], rfl, Own.nil _ _, HF.out.symm, Below.refl _ _⟩
end Go.Proofs.Ytgododijnogegaa
