/-
  The document's own reader: scalars, nothing left or quoted.
-/
import Derived.Test.YtjmgngocpokpgaaDoorScm
namespace Go.Proofs.YtjmgngocpokpgaaDoor
open Go.RowKit
set_option linter.unusedVariables false
set_option linter.unusedSimpArgs false
theorem Tryd.info40 : (Tryd.prog.info? 40).map (fun i => (i.zero, i.size, i.bytes)) = some (some (.agg #[.int .i64 0, .int .i64 0, .int .i64 0, .string ⟨#[]⟩, .bool false]), 5, 48) := by kernel_rfl
/-- Tokens and an error, handed back behind a row. -/
def ToksE (w : World) (B : Nat) (R : List Tk × Int) (e : Ending) (w' : World) : Prop :=
  ∃ v, e = .returned (.tuple #[v, .int .i64 R.2]) ∧ w'.ownsRow B 40 5 v R.1.length (R.1.flatMap Tk.row) ∧ Below B w w'
theorem scalar_none (v : Value) (T : List Tk) (B : Nat) (l : List UInt8) (i : Nat) (n : Int) (w : World) (hs : l.length ≤ 2 ^ 40) (hi : i ≤ l.length) (hrow : w.ownsRow B 40 5 v T.length (T.flatMap Tk.row)) (ho : ovrF (l.drop i) = true) :
    Calls Tryd.prog 36 #[v, .string ⟨l.toArray⟩, .int .i64 i, .int .i64 n] w (ToksE w B (T, 0)) := by
  have nr := nothing_ref l i w hs hi
  rw [ho] at nr
  go_enter Tryd.func36, Tryd.ntmps36
  go_wp2_with (go_at_call 34; refine nr.mono ?_; rintro e w' ⟨rfl, hw'⟩; obtain rfl : w = w' := hw'.symm)
  refine bodyPost_ret (v := .tuple #[v, .int .i64 0]) (by simp [results, Tryd.results36, go_sem]) rfl ?_
  exact ⟨v, rfl, hrow, Below.refl _ _⟩
theorem nul_end {l : List UInt8} {k : Nat} (hk : k ≤ l.length) (h : l[skpF l k]? = none) : nulF (l.drop k) = true := by
  unfold nulF
  have h1 := List.getElem?_eq_none_iff.1 h
  unfold skpF at h1
  have h2 := past_len (l.drop k)
  rw [List.length_drop] at h2
  rcases ht : Lib.trimLeftB (l.drop k) 32 with _ | ⟨c, p⟩
  · rfl
  · rw [ht] at h1 h2
    simp at h1 h2
    omega
theorem nul_at {l : List UInt8} {k : Nat} {c : UInt8} (hk : k ≤ l.length) (h : l[skpF l k]? = some c) : nulF (l.drop k) = decide ((c.toNat : Int) = 35 ∧ k < skpF l k) := by
  obtain ⟨m, hm⟩ := trim_parts (l.drop k)
  have h2 := past_len (l.drop k)
  rw [List.length_drop] at h2
  have hlt := ix_lt h
  have hlen := congrArg List.length hm
  rw [List.length_append, List.length_replicate, List.length_drop] at hlen
  have hsk : skpF l k = k + m := by unfold skpF; omega
  have hd : l.drop (skpF l k) = Lib.trimLeftB (l.drop k) 32 := by
    rw [hsk, ← List.drop_drop, hm]
    rw [List.drop_left' (by simp)]
    rw [← hm]
  have hc := drop_cons h
  rw [hd] at hc
  unfold nulF
  rw [hc]
  have hl3 := congrArg List.length hc
  rw [List.length_cons, List.length_drop] at hl3
  simp only [List.length_drop]
  rw [Bool.eq_iff_iff, decide_eq_true_iff, decide_eq_true_iff]
  constructor
  · rintro ⟨a, b⟩; exact ⟨a, by omega⟩
  · rintro ⟨a, b⟩; exact ⟨a, by omega⟩
theorem toks_fin {w w2 w3 : World} {B NT : Nat} {v v3 : Value} {T : List Tk} {tk : Tk} {R : List Tk × Int} {o : Obj} (hS : R = (T ++ [tk], 0)) (hN : T.length = NT) (hb : Below w.heap.size w w2) (hB : B ≤ w.heap.size) (hR : w2.ownsRow B 40 5 v NT (T.flatMap Tk.row))
    (hown : w3.ownsRow B 40 5 v3 (NT + 1) (T.flatMap Tk.row ++ [tk].flatMap Tk.row)) (hg : (w2.alloc o).grownBy w3 v.ownBlock) : ToksE w B R (.returned (.tuple #[v3, .int .i64 0])) w3 := by
  subst hS hN
  have hs := hb.size
  refine ⟨v3, rfl, ?_, ((hb.mono hB).alloc (by omega) _).grown hg (by simp; omega) (fun k hk => (hR.lt k hk).1)⟩
  rw [← List.flatMap_append] at hown
  simpa using hown
set_option maxRecDepth 100000 in
set_option maxHeartbeats 8000000 in
theorem scalar_q (v : Value) (T : List Tk) (B : Nat) (l : List UInt8) (i : Nat) (n : Int) (c : UInt8) (r : List UInt8) (w : World) (hs : l.length ≤ 2 ^ 40) (hd : l.drop i = c :: r) (hq : quoF (c.toNat : Int) = true) (hT : T.length ≤ 2 ^ 36) (hB : B ≤ w.heap.size) (hrow : w.ownsRow B 40 5 v T.length (T.flatMap Tk.row)) :
    Calls Tryd.prog 36 #[v, .string ⟨l.toArray⟩, .int .i64 i, .int .i64 n] w (ToksE w B (scaF n l i T)) := by
  obtain ⟨i40, hi40, hy0, hy1, hy2⟩ := info_parts Tryd.info40
  have ip : l[i]? = some c := by
    have : (l.drop i)[0]? = some c := by rw [hd]; rfl
    rwa [List.getElem?_drop, Nat.add_zero] at this
  have ej := ix_eq ip
  have hil := ix_lt ip
  have i0 : (0 : Int) ≤ i := by omega
  have hpl : (i : Int) < l.length := by omega
  have hq' := of_decide_eq_true hq
  have nr := nothing_ref l i w hs (by omega)
  have hov : ovrF (l.drop i) = false := by rw [hd]; simp [ovrF]; omega
  rw [hov] at nr
  have qr := quoted_ref l i c r w hs hd
  have HS : Hid (scaF n l i T = match unqF (l.drop i) with | none => ([], 82) | some (t, m) => if nulF (l.drop (i + m)) = true then (T ++ [⟨4, n, i, t, true⟩], 0) else ([], 82)) := by
    show _ = _
    unfold scaF qtdF
    rw [hd]
    dsimp only
    rw [hq, if_pos rfl, ← hd]
    rcases unqF (l.drop i) with _ | ⟨t, m⟩
    · rfl
    · dsimp only
      rw [List.drop_drop]
  obtain ⟨NT, hNT⟩ : ∃ N, T.length = N := ⟨_, rfl⟩
  rw [hNT] at hrow
  have HROW := hide2 hrow
  have HNT := hide2 hNT
  have hNTl : NT ≤ 2 ^ 36 := by omega
  clear hrow hNT hov
  rcases hu : unqF (l.drop i) with _ | ⟨t, m⟩
  · rw [hu] at qr HS
    dsimp only at HS
    clear hd hq
    rcases hq' with h1 | h1
    all_goals go_enter Tryd.func36, Tryd.ntmps36
    all_goals go_wp2_with first
      | (go_at_call 34; refine nr.mono ?_; rintro e w' ⟨rfl, hw'⟩; obtain rfl : w = w' := hw'.symm)
      | (go_at_call 53; refine qr.mono ?_; rintro e w' ⟨rfl, hb⟩; dsimp only [refE]; have HBW := hide2 hb; clear hb)
    all_goals refine bodyPost_ret (v := .tuple #[.slice none 0 0, .int .i64 82]) (by simp [results, Tryd.results36, go_sem]) rfl ?_
    all_goals exact ⟨_, by rw [HS.out], by rw [HS.out]; exact World.ownsRow_nil _ _ _ _, HBW.out.mono hB⟩
  · have hm := unqF_le hu
    rw [List.length_drop] at hm
    obtain ⟨k, hk⟩ : ∃ k, i + m = k := ⟨_, rfl⟩
    rw [hu] at qr HS
    dsimp only at HS
    dsimp only [refE] at qr
    rw [hk] at qr HS
    have hkl : k ≤ l.length := by omega
    have k0 : (0 : Int) ≤ k := by omega
    have k1 : ¬ (k : Int) < 0 := by omega
    have sr := fun w => skip_ref l k w hs hkl
    obtain ⟨j, hj⟩ : ∃ j, skpF l k = j := ⟨_, rfl⟩
    rw [hj] at sr
    have hjk : k ≤ j := by rw [← hj]; exact skpF_ge l k hkl
    have hjl : j ≤ l.length := by rw [← hj]; exact skpF_le l k
    have j0 : (0 : Int) ≤ j := by omega
    clear hd hq hk hu
    rcases ij : l[j]? with _ | x
    · have hn : nulF (l.drop k) = true := nul_end hkl (by rw [hj]; exact ij)
      rw [hn, if_pos rfl] at HS
      have kl := len_none ij
      have kl' : ¬ (j : Int) < l.length := by omega
      rcases hq' with h1 | h1
      all_goals go_enter Tryd.func36, Tryd.ntmps36
      all_goals go_wp2_with first
        | (go_at_call 34; refine nr.mono ?_; rintro e w' ⟨rfl, hw'⟩; obtain rfl : w = w' := hw'.symm)
        | (go_at_call 53; refine qr.mono ?_; rintro e w2 ⟨rfl, hb⟩; have HBW := hide2 hb; have HR2 : Hid (w2.ownsRow B 40 5 v NT (T.flatMap Tk.row)) := own_blk HROW.out (fun q hq => HBW.out.block q (HROW.out.lt q hq).2); have hs2 := HBW.out.size; clear hb)
        | (go_at_call 33; refine (sr _).mono ?_; rintro e w' ⟨rfl, hw'⟩; obtain rfl : w2 = w' := hw'.symm)
        | (at_builtin; refine wpList_append_form _ rfl (.tmp 56) (.tmp 61) 23 rfl B 40 i40 _ 5 48 Tryd.underlying23 hi40 hy0 hy1 hy2 rfl (by decide) v NT (T.flatMap Tk.row) rfl (HR2.out.alloc _) ⟨w2.heap.size, 0, none⟩ 1 1 ([(⟨4, n, i, t, true⟩ : Tk)].flatMap Tk.row) rfl rfl (World.news_of_block (heap_alloc_new w2 _)) (fun u hu => by obtain ⟨t, _, ht⟩ := List.mem_flatMap.1 hu; exact Tk.row_one t u ht) (by omega) (by unfold maxLen; omega) (by omega) (by simp; omega) ?_; intro g3 c3 w3 hown3 hgrow3; have HOW3 := hide2 hown3; have HGR3 := hide2 hgrow3; clear hown3 hgrow3)
      all_goals refine bodyPost_ret (v := .tuple #[.slice (some ⟨g3, 0, none⟩) (NT + 1) c3, .int .i64 0]) (by simp [results, Tryd.results36, go_sem]) rfl ?_
      all_goals exact toks_fin HS.out HNT.out HBW.out hB HR2.out HOW3.out HGR3.out
    · have ex := ix_eq ij
      have kl := ix_lt ij
      have kl2 : (j : Int) < l.length := by omega
      have hn := nul_at hkl (by rw [hj]; exact ij)
      rw [hj] at hn
      by_cases hkj : k = j
      · rw [hn, decide_eq_false (by omega), if_neg (by simp)] at HS
        subst hkj
        clear hn hj
        rcases hq' with h1 | h1
        all_goals go_enter Tryd.func36, Tryd.ntmps36
        all_goals go_wp2_with first
          | (go_at_call 34; refine nr.mono ?_; rintro e w' ⟨rfl, hw'⟩; obtain rfl : w = w' := hw'.symm)
          | (go_at_call 53; refine qr.mono ?_; rintro e w2 ⟨rfl, hb⟩; have HBW := hide2 hb; have HR2 : Hid (w2.ownsRow B 40 5 v NT (T.flatMap Tk.row)) := own_blk HROW.out (fun q hq => HBW.out.block q (HROW.out.lt q hq).2); have hs2 := HBW.out.size; clear hb)
          | (go_at_call 33; refine (sr _).mono ?_; rintro e w' ⟨rfl, hw'⟩; obtain rfl : w2 = w' := hw'.symm)
          | (at_builtin; refine wpList_append_form _ rfl (.tmp 56) (.tmp 61) 23 rfl B 40 i40 _ 5 48 Tryd.underlying23 hi40 hy0 hy1 hy2 rfl (by decide) v NT (T.flatMap Tk.row) rfl (HR2.out.alloc _) ⟨w2.heap.size, 0, none⟩ 1 1 ([(⟨4, n, i, t, true⟩ : Tk)].flatMap Tk.row) rfl rfl (World.news_of_block (heap_alloc_new w2 _)) (fun u hu => by obtain ⟨t, _, ht⟩ := List.mem_flatMap.1 hu; exact Tk.row_one t u ht) (by omega) (by unfold maxLen; omega) (by omega) (by simp; omega) ?_; intro g3 c3 w3 hown3 hgrow3; have HOW3 := hide2 hown3; have HGR3 := hide2 hgrow3; clear hown3 hgrow3)
        all_goals refine bodyPost_ret (v := .tuple #[.slice none 0 0, .int .i64 82]) (by simp [results, Tryd.results36, go_sem]) rfl ?_
        all_goals exact ⟨_, by rw [HS.out], by rw [HS.out]; exact World.ownsRow_nil _ _ _ _, HBW.out.mono hB⟩
      have hkj2 : ¬ (j : Int) = k := by omega
      have hkjb : ((j : Int) == (k : Int)) = false := by rw [beq_eq_false_iff_ne]; exact hkj2
      by_cases hx : (x.toNat : Int) = 35
      · rw [hn, decide_eq_true (show (x.toNat : Int) = 35 ∧ k < j from ⟨hx, by omega⟩), if_pos rfl] at HS
        clear hn hj
        rcases hq' with h1 | h1
        all_goals go_enter Tryd.func36, Tryd.ntmps36
        all_goals go_wp2_with first
          | (go_at_call 34; refine nr.mono ?_; rintro e w' ⟨rfl, hw'⟩; obtain rfl : w = w' := hw'.symm)
          | (go_at_call 53; refine qr.mono ?_; rintro e w2 ⟨rfl, hb⟩; have HBW := hide2 hb; have HR2 : Hid (w2.ownsRow B 40 5 v NT (T.flatMap Tk.row)) := own_blk HROW.out (fun q hq => HBW.out.block q (HROW.out.lt q hq).2); have hs2 := HBW.out.size; clear hb)
          | (go_at_call 33; refine (sr _).mono ?_; rintro e w' ⟨rfl, hw'⟩; obtain rfl : w2 = w' := hw'.symm)
          | (at_builtin; refine wpList_append_form _ rfl (.tmp 56) (.tmp 61) 23 rfl B 40 i40 _ 5 48 Tryd.underlying23 hi40 hy0 hy1 hy2 rfl (by decide) v NT (T.flatMap Tk.row) rfl (HR2.out.alloc _) ⟨w2.heap.size, 0, none⟩ 1 1 ([(⟨4, n, i, t, true⟩ : Tk)].flatMap Tk.row) rfl rfl (World.news_of_block (heap_alloc_new w2 _)) (fun u hu => by obtain ⟨t, _, ht⟩ := List.mem_flatMap.1 hu; exact Tk.row_one t u ht) (by omega) (by unfold maxLen; omega) (by omega) (by simp; omega) ?_; intro g3 c3 w3 hown3 hgrow3; have HOW3 := hide2 hown3; have HGR3 := hide2 hgrow3; clear hown3 hgrow3)
        all_goals refine bodyPost_ret (v := .tuple #[.slice (some ⟨g3, 0, none⟩) (NT + 1) c3, .int .i64 0]) (by simp [results, Tryd.results36, go_sem]) rfl ?_
        all_goals exact toks_fin HS.out HNT.out HBW.out hB HR2.out HOW3.out HGR3.out
      · rw [hn, decide_eq_false (fun h => hx h.1), if_neg (by simp)] at HS
        have hxc : ((x.toNat : Int) != 35) = true := by rw [bne_iff_ne]; exact hx
        clear hn hj
        rcases hq' with h1 | h1
        all_goals go_enter Tryd.func36, Tryd.ntmps36
        all_goals go_wp2_with first
          | (go_at_call 34; refine nr.mono ?_; rintro e w' ⟨rfl, hw'⟩; obtain rfl : w = w' := hw'.symm)
          | (go_at_call 53; refine qr.mono ?_; rintro e w2 ⟨rfl, hb⟩; have HBW := hide2 hb; have HR2 : Hid (w2.ownsRow B 40 5 v NT (T.flatMap Tk.row)) := own_blk HROW.out (fun q hq => HBW.out.block q (HROW.out.lt q hq).2); have hs2 := HBW.out.size; clear hb)
          | (go_at_call 33; refine (sr _).mono ?_; rintro e w' ⟨rfl, hw'⟩; obtain rfl : w2 = w' := hw'.symm)
          | (at_builtin; refine wpList_append_form _ rfl (.tmp 56) (.tmp 61) 23 rfl B 40 i40 _ 5 48 Tryd.underlying23 hi40 hy0 hy1 hy2 rfl (by decide) v NT (T.flatMap Tk.row) rfl (HR2.out.alloc _) ⟨w2.heap.size, 0, none⟩ 1 1 ([(⟨4, n, i, t, true⟩ : Tk)].flatMap Tk.row) rfl rfl (World.news_of_block (heap_alloc_new w2 _)) (fun u hu => by obtain ⟨t, _, ht⟩ := List.mem_flatMap.1 hu; exact Tk.row_one t u ht) (by omega) (by unfold maxLen; omega) (by omega) (by simp; omega) ?_; intro g3 c3 w3 hown3 hgrow3; have HOW3 := hide2 hown3; have HGR3 := hide2 hgrow3; clear hown3 hgrow3)
        all_goals refine bodyPost_ret (v := .tuple #[.slice none 0 0, .int .i64 82]) (by simp [results, Tryd.results36, go_sem]) rfl ?_
        all_goals exact ⟨_, by rw [HS.out], by rw [HS.out]; exact World.ownsRow_nil _ _ _ _, HBW.out.mono hB⟩
end Go.Proofs.YtjmgngocpokpgaaDoor
