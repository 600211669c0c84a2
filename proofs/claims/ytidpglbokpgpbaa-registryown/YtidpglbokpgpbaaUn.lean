/- unlike: new texts, each at its first place alone. -/
import Derived.Test.YtidpglbokpgpbaaRl
import Derived.Test.YtidpglbokpgpbaaSe
namespace Go.Proofs.Ytidpglbokpgpbaa
open Go.RowKit
set_option linter.unusedVariables false
set_option linter.unusedSimpArgs false
set_option maxRecDepth 100000
theorem uniq_old {L : List ByteArray} {i : Nat} {s : ByteArray} (h : L[i]? = some s) (hm : s ∈ L.take i) : uniq (L.take (i + 1)) = uniq (L.take i) := by
  rw [take_snoc h, uniq_snoc, if_pos ((uniq_mem _ _).2 hm)]
theorem uniq_new {L : List ByteArray} {i : Nat} {s : ByteArray} (h : L[i]? = some s) (hm : s ∉ L.take i) : uniq (L.take (i + 1)) = uniq (L.take i) ++ [s] := by
  rw [take_snoc h, uniq_snoc, if_neg (fun g => hm ((uniq_mem _ _).1 g))]
theorem seen_old {L : List ByteArray} {i : Nat} {s : ByteArray} {f : ByteArray → Bool} (h : L[i]? = some s) (hf : ∀ x, f x = true ↔ x ∈ L.take i) (hm : s ∈ L.take i) : ∀ x, f x = true ↔ x ∈ L.take (i + 1) := fun x => by
  rw [hf, take_snoc h, List.mem_append, List.mem_singleton]
  exact ⟨.inl, fun g => g.elim id (fun e => e ▸ hm)⟩
theorem seen_new {L : List ByteArray} {i : Nat} {s : ByteArray} {f : ByteArray → Bool} (h : L[i]? = some s) (hf : ∀ x, f x = true ↔ x ∈ L.take i) : ∀ x, setB f s x = true ↔ x ∈ L.take (i + 1) := fun x => by
  rw [take_snoc h, List.mem_append, List.mem_singleton]
  unfold setB
  by_cases e : x = s
  · simp [e]
  · simp [e, hf]
theorem Ss.app {w w3 : World} {base m mm : Nat} {e : TypeId} {sz : Nat} {v : Value} {xs : List Value} {ob : Obj} (h : w.ownsRow base e sz v m xs) (hg : ((w.alloc ob).drewN mm).grownBy w3 v.ownBlock) {k N : Nat} {f : ByteArray → Bool} (hs : Ss w k N f) : Ss w3 k N f := by
  have hk := hs.lt
  refine hs.keep ((hg.block k (by simp; omega) (fun e' => ?_)).trans (Below.heap_alloc w ob k hk))
  obtain ⟨c1, hc1⟩ := own_cells h k e'.symm
  obtain ⟨es, cc, e1⟩ := hs.isMap
  rw [e1] at hc1; cases hc1
set_option maxHeartbeats 16000000 in
theorem unlike_any (w : World) (a : Option Addr) (n c : Nat) (L : List ByteArray) (hn : L.length = n) (hl : n ≤ 1048576) (hS : Cel w a 1 (L.map strR)) (hok : ∀ s ∈ L, okS s) :
    Calls Try.prog 30 #[.slice a n c] w fun e w' => ∃ v, e = .returned v ∧ w'.ownsRow w.heap.size 9 1 v (uniq L).length (rowsOf strR (uniq L)) ∧ Below w.heap.size w w' := by
  have HS := hideL hS
  have HN := hideL hn
  have HK := hideL hok
  clear hS hn hok
  have hmm := makeMapE_n n
  obtain ⟨i9, hi9, hx0, hx1, hx2⟩ := info_parts Try.info9
  go_enter Try.func30, Try.ntmps30
  go_wp2_with fail
  go_loopw [3, 14] (fun v t wr => ∃ (i N : Nat) (f : ByteArray → Bool), t = .int .i64 i ∧ i ≤ n ∧ wr.ownsRow w.heap.size 9 1 v (uniq (L.take i)).length (rowsOf strR (uniq (L.take i))) ∧ Ss wr w.heap.size N f ∧ (∀ x, f x = true ↔ x ∈ L.take i) ∧ N ≤ i ∧ Below w.heap.size w wr) (fun _ t _ => n - (intOf t).toNat)
  case atStart => exact ⟨0, 0, _, rfl, by omega, ⟨by simp [rowsOf, uniq, uniqA], .inl ⟨rfl, by simp [uniq, uniqA]⟩⟩, Ss.made w, fun x => by simp, Nat.le_refl _, (Below.refl _ _).alloc (Nat.le_refl _) _⟩
  case round =>
    obtain ⟨i, N, f, rfl, hi, hown, hss, hf, hN, hbel⟩ := hrel
    have i0 : (0 : Int) ≤ i := by omega
    obtain ⟨va, vc, rfl, _, hvc, hvm⟩ := own_form hown
    have hul : (uniq (L.take i)).length ≤ i := Nat.le_trans (uniq_len _) (by rw [List.length_take]; exact Nat.min_le_left _ _)
    have HOW := hideL hown
    have HB := hideL hbel
    have HSS := hideL hss
    have HF := hideL hf
    obtain ⟨l, hl2⟩ : ∃ l, (uniq (L.take i)).length = l := ⟨_, rfl⟩
    have HUL := hideL hl2
    rw [hl2] at hul hvc HOW ⊢
    clear hown hbel hss hf hmm hl2
    by_cases h3 : i < n
    · have h3' : (i : Int) < n := by omega
      rcases hki : L[i]? with _ | s
      · have := List.getElem?_eq_none_iff.1 hki; have := HN.out; omega
      obtain ⟨g, off, rfl, hc⟩ := (HS.out.below HB.out).at_ hki
      have c0 := hc 0 _ rfl
      rw [Nat.add_zero, Nat.mul_one] at c0
      have hoks := HK.out s (List.mem_of_getElem? hki)
      have HKI := hideL hki
      have hlk := HSS.out.look hoks
      clear hc hki
      cases hh : f s with
      | true =>
        rw [hh] at hlk
        have HM : Hid (s ∈ L.take i) := hideL ((HF.out s).1 hh)
        clear hh
        go_wp2_with fail
        go_roundw
        case rel =>
          refine ⟨i + 1, N, f, by go_num, by omega, ?_, HSS.out.below (Gr.alloc _ _).below, seen_old HKI.out HF.out HM.out, by omega, HB.out.trans ((Gr.alloc _ _).below.mono HB.out.size)⟩
          rw [uniq_old HKI.out HM.out, HUL.out]
          exact HOW.out.alloc _
        case measure => simp [intOf]; omega
      | false =>
        rw [hh] at hlk
        have HM : Hid (s ∉ L.take i) := hideL (fun g => by rw [(HF.out s).2 g] at hh; cases hh)
        clear hh
        have HS1 := hideL (HSS.out.below (Gr.alloc wr (.cells #[] 88)).below)
        have HB1 := hideL (HB.out.trans ((Gr.alloc wr (.cells #[] 88)).below.mono HB.out.size))
        have HO1 := hideL (HOW.out.alloc (.cells #[] 88))
        obtain ⟨w4, hup, hm4, hg4⟩ := HS1.out.put hoks (by unfold maxLen; omega)
        have HM4 := hideL hm4
        have HB4 := hideL (HB1.out.grown hg4 HB1.out.size (fun k hk => by cases hk; exact Nat.le_refl _))
        have HO4 : Hid (w4.ownsRow w.heap.size 9 1 (.slice va l vc) l (rowsOf strR (uniq (L.take i)))) := own_blk' HO1.out (fun k hk => hg4.block k (HO1.out.lt k hk).2 (fun e => by
          obtain ⟨es, cc, e1⟩ := HS1.out.isMap
          obtain ⟨cs, e2⟩ := own_cells HO1.out k hk
          cases e
          rw [e1] at e2; cases e2))
        clear hm4 hg4
        go_wp2_with fail
        refine (clone_any s _ hoks).mono ?_
        rintro e w2 ⟨rfl, hb2⟩
        have HB2 := hideL (HB4.out.trans (hb2.mono HB4.out.size))
        have HO2 := hideL (own_stay HO4.out hb2)
        have HS2 := hideL (HM4.out.below hb2)
        have hlm : l + 1 ≤ maxLen := by unfold maxLen; omega
        have hlb : (l + 1) * 16 ≤ 140737488355328 := by omega
        clear hb2 c0 hup hlk
        have HOD : Hid ((w2.alloc (Obj.cells #[.string s] 9)).ownsRow w.heap.size 9 1 (.slice va l vc) l (rowsOf strR (uniq (L.take i)))) := HO2.out.alloc _
        have HND : Hid (∀ j u, (strR s)[j]? = some u → (w2.alloc (Obj.cells #[.string s] 9)).cell? ((⟨w2.heap.size, 0, none⟩ : Addr).add j) = some u) := World.news_of_block (w := (w2.alloc (Obj.cells #[.string s] 9))) (Go.heap_alloc_new w2 _)
        have hszD : w.heap.size ≤ (w2.alloc (Obj.cells #[.string s] 9)).heap.size := Nat.le_trans HB2.out.size (by simp)
        go_wp2_with (at_builtin; refine wpList_append_at _ rfl (.tmp 29) (.tmp 32) 40 rfl w.heap.size 9 i9 _ 1 16 Try.underlying40 hi9 hx0 hx1 hx2 rfl (by decide) (.slice va l vc) l (rowsOf strR (uniq (L.take i))) rfl HOD.out ⟨w2.heap.size, 0, none⟩ 1 1 (strR s) rfl rfl HND.out (strR_one _) hlm hlb hszD ?_; intro v3 w3 hown3 hgrow3 hat3; have HB3 := hideL (below_app (mm := 0) HO2.out HB2.out.size hgrow3); have HO3 := hideL hown3; have HS3 := hideL (Ss.app (mm := 0) HO2.out hgrow3 HS2.out); clear hown3 hgrow3 hat3)
        go_roundw
        case rel =>
          refine ⟨i + 1, N + 1, setB f s, by go_num, by omega, ?_, HS3.out, seen_new HKI.out HF.out, by omega, HB2.out.trans HB3.out⟩
          rw [uniq_new HKI.out HM.out, List.length_append, HUL.out, rowsOf_append, rowsOf_one]
          exact HO3.out
        case measure => simp [intOf]; omega
    · have h3' : ¬ (i : Int) < n := by omega
      obtain rfl : i = n := by omega
      have hE : L.take i = L := List.take_of_length_le (by have := HN.out; omega)
      have HF2 : Hid (wr.ownsRow w.heap.size 9 1 (.slice va l vc) (uniq L).length (rowsOf strR (uniq L))) := by
        have h1 := HOW.out
        have h2 := HUL.out
        rw [hE] at h1 h2
        rw [h2]; exact h1
      go_wp2
      go_ret
      exact ⟨_, rfl, HF2.out, HB.out⟩
end Go.Proofs.Ytidpglbokpgpbaa
