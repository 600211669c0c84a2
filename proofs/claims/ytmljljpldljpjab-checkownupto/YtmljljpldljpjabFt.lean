/-
  firsts: the place of the first resource of each key.
-/
import Derived.Test.YtmljljpldljpjabMk
import Derived.Test.YtmljljpldljpjabCl
import Derived.Test.YtmljljpldljpjabKo
namespace Go.Proofs.Ytmljljpldljpjab
open Go.RowKit
set_option linter.unusedVariables false
set_option linter.unusedSimpArgs false
set_option maxRecDepth 100000
theorem firstsF_snoc_some {l : List Rs} {r : Rs} {j : Nat} (h : firstsF l r.key = some j) : firstsF (l ++ [r]) = firstsF l := by
  funext k
  unfold firstsF at *
  rw [List.findIdx?_append]
  cases hk : l.findIdx? (fun r => decide (r.key = k)) with
  | some i => rfl
  | none =>
    have hne : ¬ r.key = k := by rintro rfl; rw [hk] at h; cases h
    simp [hne]
theorem firstsF_snoc_none {l : List Rs} {r : Rs} (h : firstsF l r.key = none) : firstsF (l ++ [r]) = setF (firstsF l) r.key l.length := by
  funext k
  unfold firstsF setF at *
  rw [List.findIdx?_append]
  by_cases e : k = r.key
  · subst e
    rw [h, if_pos rfl]
    simp
  · rw [if_neg e]
    have hne : ¬ r.key = k := fun h => e h.symm
    cases hk : l.findIdx? (fun r => decide (r.key = k)) with
    | some i => simp [hk]
    | none => simp [hne, hk]
theorem take_snoc {α : Type} {l : List α} {i : Nat} {o : α} (h : l[i]? = some o) : l.take (i + 1) = l.take i ++ [o] := by rw [List.take_add_one, h]; rfl
theorem lookC {w : World} {m N : Nat} {f : Int × ByteArray → Option Nat} (h : Mp w m N f) {k : Int × ByteArray} (hk : okK k) : (∃ i, f k = some i) ∨ f k = none := by
  cases f k with
  | some i => exact .inl ⟨i, rfl⟩
  | none => exact .inr rfl
theorem makeMap_n (n : Nat) (w : World) : (Instr.makeMap 50 (some (.int .i64 (n : Int)))).run Try.prog w = .ok (.map (some w.heap.size)) (w.alloc (.map #[] 0)) := by
  simp [Instr.makeMap, run_underlying Try.underlying50, Result.andThen, go_sem]
/-- a resource in a box -/
def boxO (o : Rx) : Obj := .cells #[.int .i64 o.kd, .string o.nm, .slice o.ea o.eps.length o.ec, .slice o.ta o.tgs.length o.tc, .string o.host, .slice o.ra o.rus.length o.rc, .string o.route, .bool o.del] 34
theorem box8 {W : World} {b : Nat} {o : Rx} (h : W.heap[b]? = some (boxO o)) :
    W.cell? ⟨b, 0, none⟩ = some (.int .i64 o.kd) ∧ W.cell? ⟨b, 1, none⟩ = some (.string o.nm) ∧ W.cell? ⟨b, 2, none⟩ = some (.slice o.ea o.eps.length o.ec) ∧ W.cell? ⟨b, 3, none⟩ = some (.slice o.ta o.tgs.length o.tc) ∧
    W.cell? ⟨b, 4, none⟩ = some (.string o.host) ∧ W.cell? ⟨b, 5, none⟩ = some (.slice o.ra o.rus.length o.rc) ∧ W.cell? ⟨b, 6, none⟩ = some (.string o.route) ∧ W.cell? ⟨b, 7, none⟩ = some (.bool o.del) := by
  unfold boxO at h
  refine ⟨?_, ?_, ?_, ?_, ?_, ?_, ?_, ?_⟩ <;> (rw [cell_block h]; rfl)
set_option maxHeartbeats 16000000 in
theorem firsts_any (w : World) (a : Option Addr) (n c : Nat) (os : List Rx) (hL : Lr w a os) (hn : os.length = n) (hs : n ≤ 4194304) :
    Calls Try.prog 16 #[.slice a n c] w fun e w' => e = .returned (.map (some w.heap.size)) ∧ Mp w' w.heap.size n (firstsF (os.map Rx.toRs)) ∧ Below w.heap.size w w' := by
  have HL := hideL hL
  have HN := hideL hn
  clear hL hn
  have hmm := makeMap_n n
  go_enter Try.func16, Try.ntmps16
  go_wp2_with fail
  go_loopw [13] (fun t wr => ∃ (i : Nat), t = .int .i64 i ∧ i ≤ n ∧ Mp wr w.heap.size i (firstsF ((os.take i).map Rx.toRs)) ∧ Below w.heap.size w wr) (fun t _ => n - (intOf t).toNat)
  case atStart => exact ⟨0, rfl, by omega, Mp.made w, (Below.refl _ _).alloc (Nat.le_refl _) _⟩
  case round =>
    obtain ⟨i, rfl, hi, hmp, hbel⟩ := hrel
    have HM := hideL hmp
    have HB := hideL hbel
    have i0 : (0 : Int) ≤ i := by omega
    clear hmp hbel hmm
    by_cases h3 : i < n
    · have h3' : (i : Int) < n := by omega
      rcases hki : os[i]? with _ | o
      · have := List.getElem?_eq_none_iff.1 hki; have := HN.out; omega
      have HK := hideL (HL.out.each o (List.mem_of_getElem? hki)).ok.key
      obtain ⟨g, off, rfl, d0, d1, d2, d3, d4, d5, d6, d7⟩ := (HL.out.row.below HB.out).cells hki
      have HT := hideL (take_snoc hki)
      have HTL : Hid (((os.take i).map Rx.toRs).length = i) := by unfold Hid; simp; have := HN.out; omega
      clear hki
      go_wp2_with fail
      refine (keyOf_any _ o).mono ?_
      rintro e w2 ⟨rfl, hg2⟩
      have HG2 := hideL ((Gr.alloc wr _).trans hg2)
      have HM2 := hideL (HM.out.below HG2.out.below)
      have HX2 := hideL (show w2.heap[wr.heap.size]? = some (boxO o) from hg2.below.cells (heap_alloc_new wr _))
      have HB2 := hideL (HB.out.trans (HG2.out.below.mono HB.out.size))
      clear hg2 d0 d1 d2 d3 d4 d5 d6 d7
      unfold keyV Rs.key
      dsimp only
      rcases lookC HM2.out HK.out with ⟨j, hj⟩ | hj
      · have hlk : (Instr.lookup 50 (.map (some w.heap.size)) (.agg #[.int .i64 o.kd, .string o.nm]) true).run Try.prog w2 = .ok (.tuple #[.int .i64 j, .bool true]) w2 := (HM2.out.look HK.out true).1 j hj
        have HE := hideL (firstsF_snoc_some hj)
        clear hj
        go_wp2_with fail
        go_roundw
        case rel =>
          refine ⟨i + 1, by go_num, by omega, ?_, HB2.out⟩
          rw [HT.out, List.map_append, List.map_cons, List.map_nil, HE.out]
          exact HM2.out.mono (by omega)
        case measure => simp [intOf]; omega
      · have hlk : (Instr.lookup 50 (.map (some w.heap.size)) (.agg #[.int .i64 o.kd, .string o.nm]) true).run Try.prog w2 = .ok (.tuple #[.int .i64 0, .bool false]) w2 := (HM2.out.look HK.out true).2 hj
        have HE := hideL (firstsF_snoc_none hj)
        clear hj
        obtain ⟨e0, e1, e2, e3, e4, e5, e6, e7⟩ := box8 HX2.out
        go_wp2_with fail
        refine (keyOf_any _ o).mono ?_
        rintro e w3 ⟨rfl, hg3⟩
        have HM3 := hideL (HM2.out.below hg3.below)
        have HB3 := hideL (HB2.out.trans (hg3.below.mono HB2.out.size))
        clear hg3 e0 e1 e2 e3 e4 e5 e6 e7 hlk
        obtain ⟨w4, hup, hm4, hg4⟩ := HM3.out.put HK.out i (by omega) (by unfold maxLen; omega)
        have HM4 := hideL hm4
        have HB4 := hideL (HB3.out.grown hg4 HB3.out.size (fun k hk => by cases hk; exact Nat.le_refl _))
        clear hm4 hg4
        unfold keyV Rs.key at *
        dsimp only at *
        go_wp2_with fail
        go_roundw
        case rel =>
          refine ⟨i + 1, by go_num, by omega, ?_, HB4.out⟩
          rw [HT.out, List.map_append, List.map_cons, List.map_nil, HE.out, HTL.out]
          exact HM4.out
        case measure => simp [intOf]; omega
    · have h3' : ¬ (i : Int) < n := by omega
      obtain rfl : i = n := by omega
      go_wp2
      go_ret
      refine ⟨rfl, ?_, HB.out⟩
      have := HM.out
      rwa [List.take_of_length_le (by have := HN.out; omega)] at this
end Go.Proofs.Ytmljljpldljpjab
