/-
  The document's drop and Out.
-/
import Derived.Test.YtmljljpldljpjabPw
import Derived.Test.YtmljljpldljpjabAs
namespace Go.Proofs.Ytmljljpldljpjab
open Go.RowKit
set_option linter.unusedVariables false
set_option linter.unusedSimpArgs false
set_option maxRecDepth 100000
theorem drop_gl {w w4 : World} {a : Option Addr} {n j : Nat} {os : List Rx} {v4 : Value} (hL : Lr w a os) (hn : os.length = n) (hj : j < n)
    (ho : w4.ownsRow w.heap.size 34 8 v4 (j + (n - (j + 1))) (rowsOf Rx.row (os.take j) ++ rowsOf Rx.row (os.drop (j + 1)))) (hb : Below w.heap.size w w4) : Gl w w4 v4 (os.take j ++ os.drop (j + 1)) := by
  refine ⟨?_, fun o ho' => ?_, hb⟩
  · have hl : (os.take j ++ os.drop (j + 1)).length = j + (n - (j + 1)) := by simp; omega
    rw [hl, rowsOf_append]
    exact ho
  · rcases List.mem_append.1 ho' with h | h
    · exact hL.each o (List.mem_of_mem_take h)
    · exact hL.each o (List.mem_of_mem_drop h)
set_option maxHeartbeats 16000000 in
theorem drop_any (w : World) (a : Option Addr) (n c j : Nat) (os : List Rx) (hL : Lr w a os) (hn : os.length = n) (hs : n ≤ 4194304) (hf : Frm a n c) (hj : j < n) :
    Calls Try.prog 23 #[.slice a n c, .int .i64 j] w fun e w' => ∃ v, e = .returned v ∧ Gl w w' v (os.take j ++ os.drop (j + 1)) := by
  have HL := hideL hL
  have HN := hideL hn
  have HFR := hideL hf
  clear hL hn hf
  obtain ⟨i52, hi52, hx0, hx1, hx2⟩ := info_parts Try.info34
  rcases hkj : os[j]? with _ | o
  · have := List.getElem?_eq_none_iff.1 hkj; have := HN.out; omega
  obtain ⟨g, off, rfl, -⟩ := HL.out.row.cells hkj
  clear hkj
  have hcl : n ≤ c ∧ c ≤ maxLen := by
    rcases HFR.out with ⟨h, _⟩ | ⟨x, _, h1, h2⟩
    · cases h
    · exact ⟨h1, h2⟩
  obtain ⟨hcl1, hcl2⟩ := hcl
  have j0 : (0 : Int) ≤ j := by omega
  have j1 : (j : Int) ≤ n := by omega
  have j2 : (j : Int) + 1 ≤ n := by omega
  have j3 : (j : Int) < c := by omega
  have SRC1 := hideL (front_src (c := c) (k := j) HL.out.row HN.out (by omega) HFR.out)
  have NIL : Hid (w.ownsRow w.heap.size 34 8 (.slice none 0 0) 0 []) := ⟨by simp, .inl ⟨rfl, rfl⟩⟩
  by_cases hjc : j + 1 = c
  · have hjn : j + 1 = n := by omega
    have hjc' : (j : Int) + 1 = c := by omega
    obtain rfl : c = j + 1 := hjc.symm
    obtain rfl : n = j + 1 := hjn.symm
    clear hjc hjn hjc'
    · go_enter Try.func23, Try.ntmps23
      go_wp2_with first
        | (at_builtin; refine wpList_append_src _ rfl (.tmp 11) (.tmp 15) 22 rfl w.heap.size 34 i52 _ 8 136 Try.underlying22 hi52 hx0 hx1 hx2 rfl (by decide) (.slice a1 j k1) j _ rfl HO1.out (some (⟨g, off, none⟩ : Addr)) 0 0 (rowsOf Rx.row (os.drop (j + 1))) rfl SRC3.out (rows_oneC Rx.row rx_one _) (by unfold maxLen; omega) (by omega) hsz1 ?_; intro v4 w4 hown4 hgrow4; have HB4 := hideL (HB1.out.grown hgrow4 HB1.out.size (fun k hk => (HO1.out.lt k hk).1)); have HO4 := hideL hown4; clear hown4 hgrow4)
        | (at_builtin; refine wpList_append_src _ rfl (.tmp 6) (.tmp 9) 22 rfl w.heap.size 34 i52 _ 8 136 Try.underlying22 hi52 hx0 hx1 hx2 rfl (by decide) (.slice none 0 0) 0 [] rfl NIL.out (some ⟨g, off, none⟩) j (j + 1) (rowsOf Rx.row (os.take j)) rfl SRC1.out (rows_oneC Rx.row rx_one _) (by unfold maxLen; omega) (by omega) (Nat.le_refl _) ?_; intro v1 w1 hown1 hgrow1; rw [Nat.zero_add, List.nil_append] at hown1; obtain ⟨a1, k1, rfl, _⟩ := own_form hown1; have HB1 : Hid (Below w.heap.size w w1) := (Below.refl _ w).grown hgrow1 (Nat.le_refl _) (fun k h => by cases h); have HO1 := hideL hown1; have hsz1 := HB1.out.size; have SRC3 : Hid (((some (⟨g, off, none⟩ : Addr)) = none ∧ (0 : Nat) = 0 ∧ (0 : Nat) = 0 ∧ rowsOf Rx.row (os.drop (j + 1)) = []) ∨ ∃ ad, (some (⟨g, off, none⟩ : Addr)) = some ad ∧ (rowsOf Rx.row (os.drop (j + 1))).length = ((0 : Nat)) * 8 ∧ ∀ i u, (rowsOf Rx.row (os.drop (j + 1)))[i]? = some u → w1.cell? (ad.add i) = some u) := .inr ⟨_, rfl, by rw [List.drop_eq_nil_of_le (by have := HN.out; omega)]; simp [rowsOf], fun i u hu => by rw [List.drop_eq_nil_of_le (by have := HN.out; omega)] at hu; simp [rowsOf] at hu⟩; clear hown1 hgrow1)
      go_ret
      exact ⟨_, rfl, drop_gl HL.out HN.out (by omega) (by simpa using HO4.out) HB4.out⟩

  · have hjc' : (j : Int) + 1 < c := by omega
    have hjc2 : ((j + 1 : Nat) : Int) < c := by omega
    clear hjc
    · go_enter Try.func23, Try.ntmps23
      go_wp2_with first
        | (at_builtin; refine wpList_append_src _ rfl (.tmp 11) (.tmp 15) 22 rfl w.heap.size 34 i52 _ 8 136 Try.underlying22 hi52 hx0 hx1 hx2 rfl (by decide) (.slice a1 j k1) j _ rfl HO1.out (some (⟨g, off + (j + 1) * 8, none⟩ : Addr)) (n - (j + 1)) (c - (j + 1)) (rowsOf Rx.row (os.drop (j + 1))) rfl SRC3.out (rows_oneC Rx.row rx_one _) (by unfold maxLen; omega) (by omega) hsz1 ?_; intro v4 w4 hown4 hgrow4; have HB4 := hideL (HB1.out.grown hgrow4 HB1.out.size (fun k hk => (HO1.out.lt k hk).1)); have HO4 := hideL hown4; clear hown4 hgrow4)
        | (at_builtin; refine wpList_append_src _ rfl (.tmp 6) (.tmp 9) 22 rfl w.heap.size 34 i52 _ 8 136 Try.underlying22 hi52 hx0 hx1 hx2 rfl (by decide) (.slice none 0 0) 0 [] rfl NIL.out (some ⟨g, off, none⟩) j c (rowsOf Rx.row (os.take j)) rfl SRC1.out (rows_oneC Rx.row rx_one _) (by unfold maxLen; omega) (by omega) (Nat.le_refl _) ?_; intro v1 w1 hown1 hgrow1; rw [Nat.zero_add, List.nil_append] at hown1; obtain ⟨a1, k1, rfl, _⟩ := own_form hown1; have HB1 : Hid (Below w.heap.size w w1) := (Below.refl _ w).grown hgrow1 (Nat.le_refl _) (fun k h => by cases h); have HO1 := hideL hown1; have hsz1 := HB1.out.size; have SRC3 : Hid (((some (⟨g, off + (j + 1) * 8, none⟩ : Addr)) = none ∧ n - (j + 1) = 0 ∧ c - (j + 1) = 0 ∧ rowsOf Rx.row (os.drop (j + 1)) = []) ∨ ∃ ad, (some (⟨g, off + (j + 1) * 8, none⟩ : Addr)) = some ad ∧ (rowsOf Rx.row (os.drop (j + 1))).length = (n - (j + 1)) * 8 ∧ ∀ i u, (rowsOf Rx.row (os.drop (j + 1)))[i]? = some u → w1.cell? (ad.add i) = some u) := .inr ⟨_, rfl, (rest_plain (k := j + 1) (HL.out.row.below HB1.out) HN.out (by omega)).1, (rest_plain (k := j + 1) (HL.out.row.below HB1.out) HN.out (by omega)).2⟩; clear hown1 hgrow1)
      go_ret
      exact ⟨_, rfl, drop_gl HL.out HN.out (by omega) HO4.out HB4.out⟩

end Go.Proofs.Ytmljljpldljpjab
