/-
  The contracts of recordOf, Record and the document's Record.
-/
import Derived.Test.YtkiikaopoeglcaaNum
import Derived.Lib.AppendStr
import Derived.Laws.IdiomStrings
namespace Go.Proofs.Ytkiikaopoeglcaa
open Go.RowKit
set_option linter.unusedVariables false
set_option linter.unusedSimpArgs false
/-- A string's bytes. -/
def sb (s : ByteArray) : List Int := s.data.toList.map fun b => (b.toNat : Int)
theorem sb_length (s : ByteArray) : (sb s).length = s.size := by simp [sb]
theorem sb_cells (s : ByteArray) : Lib.strCells s = vals (sb s) := by simp [Lib.strCells, vals, sb]
theorem sb_octets (s : ByteArray) : Octets (sb s) := fun i => by
  by_cases hi : i < (sb s).length
  · simp only [sb, List.length_map] at hi
    have e : (sb s).getD i 0 = ((s.data.toList[i]).toNat : Int) := by simp only [sb, List.getD, List.getElem?_map, List.getElem?_eq_getElem hi]; rfl
    rw [e]
    have := UInt8.toNat_lt (s.data.toList[i])
    omega
  · simp [Nat.le_of_not_lt hi]
def bstr (zs : List Int) : ByteArray := zs.foldl (fun r n => r.push (UInt8.ofNat n.toNat)) ByteArray.empty
theorem bstr_data (zs : List Int) : (bstr zs).data.toList = zs.map (fun n => UInt8.ofNat n.toNat) := by
  have : ∀ (l : List Int) (s : ByteArray), (l.foldl (fun r n => r.push (UInt8.ofNat n.toNat)) s).data.toList = s.data.toList ++ l.map (fun n => UInt8.ofNat n.toNat) := by
    intro l
    induction l with
    | nil => intro s; simp
    | cons a l ih => intro s; simp only [List.foldl_cons]; rw [ih]; simp [ByteArray.push]
  have := this zs ByteArray.empty
  simpa [bstr] using this
theorem bstr_inj (a b : List Int) (ha : Octets a) (hb : Octets b) (h : bstr a = bstr b) : a = b := by
  have hd : a.map (fun n => UInt8.ofNat n.toNat) = b.map (fun n => UInt8.ofNat n.toNat) := by rw [← bstr_data, ← bstr_data, h]
  have hl : a.length = b.length := by have := congrArg List.length hd; simpa using this
  apply List.ext_getElem hl
  intro i h1 h2
  have e : UInt8.ofNat (a[i]).toNat = UInt8.ofNat (b[i]).toNat := by
    have := congrArg (·[i]?) hd
    simpa [h1, h2] using this
  have xa := ha i; have xb := hb i
  simp [h1] at xa; simp [h2] at xb
  have e' := congrArg UInt8.toNat e
  simp at e'
  omega
theorem sb_bstr (zs : List Int) (hz : Octets zs) : sb (bstr zs) = zs := by
  unfold sb
  rw [bstr_data, List.map_map]
  apply List.ext_getElem (by simp)
  intro i h1 h2
  have := hz i
  simp [h2] at this
  simp
  omega
theorem bstr_size (zs : List Int) : (bstr zs).size = zs.length := by
  have := congrArg List.length (bstr_data zs)
  simpa using this
theorem str_of (w : World) (a : Option Addr) (n cap : Nat) (zs : List Int) (hn : zs.length = n) (hB : Has w a zs) : (convert 22 9 (.slice a n cap)).run Try.prog w = .ok (.string (bstr zs)) w := by
  rw [run_convert_bytes_string w 22 9 5 a n cap Try.underlying22 Try.underlying5 Try.underlying9]
  subst hn
  rcases hB with ⟨rfl, rfl⟩ | ⟨x, rfl, hB⟩
  · simp [Conv.bytesToString, bstr]
  · have hl := run_loadCells_list (P := Try.prog) w x (zs.map (Value.int .u8)) (fun j v hj => by
      obtain ⟨hj', rfl⟩ := vals_at zs j v hj
      exact hB j hj')
    simp only [List.length_map] at hl
    exact run_bytesToString w x zs.length cap zs hl

/-- The number's bytes ahead of a text. -/
def front (n : Int) : List Int := [0, 0, 0, 0, 0, n / 65536, n / 256 % 256, n % 256]
/-- What Record answers: the record, or nothing, and the error. -/
def recF (n : Int) (s : ByteArray) : List Int × Int := if n < 1 ∨ 1048576 < n then ([], 2) else if 65536 < s.size then ([], 3) else (front n ++ sb s, 0)
def RecIs (w : World) (n : Int) (s : ByteArray) (e : Ending) (w' : World) : Prop :=
  ∃ (a : Option Addr) (m cp : Nat), e = .returned (.tuple #[.slice a m cp, .int .i64 (recF n s).2]) ∧ (recF n s).1.length = m ∧ Has w' a (recF n s).1 ∧ Below w.heap.size w w'

theorem rec_made {w w1 w2 : World} {n : Int} {k : Nat} (hb1 : Below w.heap.size w w1)
    (hown : w2.ownsRow w.heap.size 5 1 (.slice (some ⟨(w1.alloc (.cells #[.int .u8 0, .int .u8 0, .int .u8 0, .int .u8 0, .int .u8 0, .int .u8 (n / 65536), .int .u8 (n / 256 % 256), .int .u8 (n % 256)] 36)).heap.size, 0, none⟩) 0 (8 + k)) 0 [])
    (hg : (w1.alloc (.cells #[.int .u8 0, .int .u8 0, .int .u8 0, .int .u8 0, .int .u8 0, .int .u8 (n / 65536), .int .u8 (n / 256 % 256), .int .u8 (n % 256)] 36)).grownBy w2 none) :
    Hid (w2.heap[w1.heap.size]? = some (.cells (vals (front n)).toArray 36 (0, 0))) ∧ Hid (Below w.heap.size w w2) ∧ Hid (w2.ownsRow w.heap.size 5 1 (.slice (some ⟨w1.heap.size + 1, 0, none⟩) 0 (8 + k)) 0 []) := by
  have s1 := hb1.size
  refine ⟨(hg.block _ (by simp) (by simp)).trans (heap_alloc_new w1 _), (hb1.alloc hb1.size _).grown hg (by simp; omega) (fun k h => by cases h), ?_⟩
  have : (w1.alloc (.cells #[.int .u8 0, .int .u8 0, .int .u8 0, .int .u8 0, .int .u8 0, .int .u8 (n / 65536), .int .u8 (n / 256 % 256), .int .u8 (n % 256)] 36)).heap.size = w1.heap.size + 1 := by simp
  rw [this] at hown; exact hown
theorem rec_two {w w1 w2 w3 : World} {n : Int} {k : Nat} (sz1 : w.heap.size ≤ w1.heap.size) (B2 : Hid (Below w.heap.size w w2))
    (hown : w3.ownsRow w.heap.size 5 1 (.slice (some ⟨w1.heap.size + 1, 0, none⟩) (0 + 8) (8 + k)) (0 + 8) ([] ++ vals (front n))) (hg : w2.grownBy w3 (some (w1.heap.size + 1))) :
    Hid (Below w.heap.size w w3) ∧ Hid (w3.ownsRow w.heap.size 5 1 (.slice (some ⟨w1.heap.size + 1, 0, none⟩) 8 (8 + k)) 8 (vals (front n))) :=
  ⟨B2.out.grown hg B2.out.size (fun k h => by cases h; omega), hown⟩
theorem rec_three {w w1 w3 w4 : World} {n : Int} {k : Nat} {s : ByteArray} {v : Value} (hk : s.size = k) (sz1 : w.heap.size ≤ w1.heap.size) (B3 : Hid (Below w.heap.size w w3))
    (hown : w4.ownsRow w.heap.size 5 1 v (8 + s.size) (vals (front n) ++ Lib.strCells s)) (hg : w3.grownBy w4 (Value.slice (some ⟨w1.heap.size + 1, 0, none⟩) 8 (8 + k)).ownBlock) :
    ∃ g cp, v = .slice (some ⟨g, 0, none⟩) (8 + k) cp ∧ Hid (Below w.heap.size w w4) ∧ Hid (w4.ownsRow w.heap.size 5 1 (.slice (some ⟨g, 0, none⟩) (8 + k) cp) (8 + k) (vals (front n ++ sb s))) := by
  rw [hk, sb_cells, ← vals_append] at hown
  obtain ⟨g, cp, rfl, _⟩ := hown.form (by omega)
  exact ⟨g, cp, rfl, B3.out.grown hg B3.out.size (fun k h => by cases h; show _ ≤ w1.heap.size + 1; omega), hown⟩
set_option maxRecDepth 100000 in
set_option maxHeartbeats 1000000 in
theorem recordOf_any (n : Int) (s : ByteArray) (w : World) (h0 : 0 ≤ n) (h1 : n ≤ 1048576) (hs : s.size ≤ 65536) :
    Calls Try.prog 8 #[.int .i64 n, .string s] w fun e w' => ∃ g cp, e = .returned (.slice (some ⟨g, 0, none⟩) (8 + s.size) cp) ∧ w'.ownsRow w.heap.size 5 1 (.slice (some ⟨g, 0, none⟩) (8 + s.size) cp) (8 + s.size) (vals (front n ++ sb s)) ∧ Below w.heap.size w w' := by
  obtain ⟨i0, hi, hz0, hz1, hz2⟩ := info_parts Try.info5
  obtain ⟨k, hk⟩ : ∃ k, s.size = k := ⟨_, rfl⟩
  rw [hk] at hs ⊢
  go_enter Try.func8, Try.ntmps8
  go_wp2_with fail
  refine (split_any n _ h0 h1).mono ?_
  rintro e w1 ⟨rfl, hb1⟩
  have sz1 := hb1.size
  go_wp2_with (first
    | (at_make; refine wpList_make_own _ rfl (.const (.int .i64 0)) (.tmp 12) 22 rfl w.heap.size 5 i0 (.int .u8 0) 1 Try.underlying22 hi hz0 hz1 .i64 .i64 (8 + (k : Int)) (8 + k) rfl rfl (by omega) (by rw [hz2]; omega) (by unfold maxLen; omega) (by simp; omega) ?_; intro w2 hown2 hgrow2; obtain ⟨H2, B2, O2⟩ := rec_made hb1 hown2 hgrow2; clear hown2 hgrow2)
    | (at_builtin; refine wpList_append_fits _ rfl (.tmp 14) (.tmp 15) 22 rfl w.heap.size 5 i0 1 Try.underlying22 hi hz1 (w1.heap.size + 1) 0 (8 + k) [] rfl O2.out ⟨w1.heap.size, 0, none⟩ 8 8 (vals (front n)) rfl rfl (World.news_of_block H2.out) (vals_one _) (by omega) ?_; intro w3 hown3 hgrow3; obtain ⟨B3, O3⟩ := rec_two sz1 B2 hown3 hgrow3; clear hown3 hgrow3)
    | (at_builtin; refine Lib.wpList_append_own_string _ rfl (.tmp 17) (.tmp 18) 22 9 rfl w.heap.size 5 i0 Try.underlying22 Try.underlying9 hi hz0 hz1 hz2 _ 8 (vals (front n)) rfl O3.out s rfl (by unfold maxLen; omega) (by omega) B3.out.size ?_; intro v4 w4 hown4 hgrow4 _; obtain ⟨g4, cp4, rfl, B4, O4⟩ := rec_three hk sz1 B3 hown4 hgrow4; clear hown4 hgrow4))
  go_ret
  exact ⟨_, _, rfl, O4.out, B4.out⟩
theorem recF_bad {n : Int} {s : ByteArray} (h : n < 1 ∨ 1048576 < n) : recF n s = ([], 2) := if_pos h
theorem recF_long {n : Int} {s : ByteArray} (h : ¬ (n < 1 ∨ 1048576 < n)) (hs : 65536 < s.size) : recF n s = ([], 3) := by rw [recF, if_neg h, if_pos hs]
theorem recF_ok {n : Int} {s : ByteArray} (h : ¬ (n < 1 ∨ 1048576 < n)) (hs : ¬ 65536 < s.size) : recF n s = (front n ++ sb s, 0) := by rw [recF, if_neg h, if_neg hs]
theorem recIs_some {w w' : World} {n : Int} {s : ByteArray} {c : Int} {zs : List Int} {a : Option Addr} {m cp : Nat} (h : recF n s = (zs, c)) (hm : zs.length = m) (hh : Has w' a zs) (hb : Below w.heap.size w w') : RecIs w n s (.returned (.tuple #[.slice a m cp, .int .i64 c])) w' :=
  ⟨a, m, cp, by rw [h], by rw [h]; exact hm, by rw [h]; exact hh, hb⟩
theorem recIs_none {w : World} {n : Int} {s : ByteArray} {c : Int} (h : recF n s = ([], c)) : RecIs w n s (.returned (.tuple #[.slice none 0 0, .int .i64 c])) w :=
  recIs_some h rfl (.inl ⟨rfl, rfl⟩) (Below.refl _ _)
theorem rec_len {n : Int} {s : ByteArray} {k : Nat} (hk : s.size = k) : (front n ++ sb s).length = 8 + k := by simp [front, sb_length]; omega
set_option maxRecDepth 100000 in
set_option maxHeartbeats 1000000 in
theorem record_any (n : Int) (s : ByteArray) (w : World) (hs : s.size ≤ 140737488355328) :
    Calls Try.prog 4 #[.int .i64 n, .string s] w fun e w' => RecIs w n s e w' := by
  by_cases h1 : n < 1
  · have HR : Hid (recF n s = ([], 2)) := recF_bad (.inl h1)
    go_enter Try.func4, Try.ntmps4
    go_wp2
    go_ret2
    exact recIs_none HR.out
  by_cases h2 : 1048576 < n
  · have HR : Hid (recF n s = ([], 2)) := recF_bad (.inr h2)
    go_enter Try.func4, Try.ntmps4
    go_wp2
    go_ret2
    exact recIs_none HR.out
  have hno : ¬ (n < 1 ∨ 1048576 < n) := by omega
  obtain ⟨k, hk⟩ : ∃ k, s.size = k := ⟨_, rfl⟩
  rw [hk] at hs
  by_cases h3 : 65536 < k
  · have HR : Hid (recF n s = ([], 3)) := recF_long hno (by omega)
    clear hno
    go_enter Try.func4, Try.ntmps4
    go_wp2
    go_ret2
    exact recIs_none HR.out
  · have HR : Hid (recF n s = (front n ++ sb s, 0)) := recF_ok hno (by omega)
    clear hno
    go_enter Try.func4, Try.ntmps4
    go_wp2_with fail
    refine (recordOf_any n s _ (by omega) (by omega) (by omega)).mono ?_
    rintro e w1 ⟨g, cp, rfl, ho, hb⟩
    go_wp2
    go_ret2
    exact recIs_some HR.out (rec_len hk) (own_has ho) hb
theorem front_built {w : World} {n : Int} : (w.alloc (.cells #[.int .u8 0, .int .u8 0, .int .u8 0, .int .u8 0, .int .u8 0, .int .u8 (n / 65536), .int .u8 (n / 256 % 256), .int .u8 (n % 256)] 5)).ownsRow w.heap.size 5 1 (.slice (some ⟨w.heap.size, 0, none⟩) 8 8) 8 (vals (front n)) :=
  ⟨rfl, .inr ⟨_, 8, _, rfl, Nat.le_refl _, heap_alloc_new w _, Nat.le_refl _, by decide, rfl, rfl⟩⟩
theorem rec_four {w w4 : World} {n : Int} {k : Nat} {s : ByteArray} {v : Value} {o : Obj} (hk : s.size = k)
    (hown : w4.ownsRow w.heap.size 5 1 v (8 + s.size) (vals (front n) ++ Lib.strCells s)) (hg : (w.alloc o).grownBy w4 (Value.slice (some ⟨w.heap.size, 0, none⟩) 8 8).ownBlock) :
    ∃ g cp, v = .slice (some ⟨g, 0, none⟩) (8 + k) cp ∧ Hid (Below w.heap.size w w4) ∧ Hid (w4.ownsRow w.heap.size 5 1 (.slice (some ⟨g, 0, none⟩) (8 + k) cp) (8 + k) (vals (front n ++ sb s))) := by
  rw [hk, sb_cells, ← vals_append] at hown
  obtain ⟨g, cp, rfl, _⟩ := hown.form (by omega)
  exact ⟨g, cp, rfl, ((Below.refl _ w).alloc (Nat.le_refl _) _).grown hg (by simp) (fun k h => by cases h; exact Nat.le_refl _), hown⟩
set_option maxRecDepth 100000 in
set_option maxHeartbeats 1000000 in
theorem rrecord_any (n : Int) (s : ByteArray) (w : World) (hs : s.size ≤ 140737488355328) :
    Calls Try.prog 5 #[.int .i64 n, .string s] w fun e w' => RecIs w n s e w' := by
  by_cases h1 : n < 1
  · have HR : Hid (recF n s = ([], 2)) := recF_bad (.inl h1)
    go_enter Try.func5, Try.ntmps5
    go_wp2
    go_ret2
    exact recIs_none HR.out
  by_cases h2 : 1048576 < n
  · have HR : Hid (recF n s = ([], 2)) := recF_bad (.inr h2)
    go_enter Try.func5, Try.ntmps5
    go_wp2
    go_ret2
    exact recIs_none HR.out
  have hno : ¬ (n < 1 ∨ 1048576 < n) := by omega
  obtain ⟨k, hk⟩ : ∃ k, s.size = k := ⟨_, rfl⟩
  rw [hk] at hs
  by_cases h3 : 65536 < k
  · have HR : Hid (recF n s = ([], 3)) := recF_long hno (by omega)
    clear hno
    go_enter Try.func5, Try.ntmps5
    go_wp2
    go_ret2
    exact recIs_none HR.out
  · have HR : Hid (recF n s = (front n ++ sb s, 0)) := recF_ok hno (by omega)
    clear hno
    obtain ⟨i0, hi, hz0, hz1, hz2⟩ := info_parts Try.info5
    go_enter Try.func5, Try.ntmps5
    go_wp2_with (first
      | (at_builtin; refine Lib.wpList_append_own_string _ rfl (.tmp 27) (.tmp 28) 22 9 rfl w.heap.size 5 i0 Try.underlying22 Try.underlying9 hi hz0 hz1 hz2 _ 8 (vals (front n)) rfl front_built s rfl (by unfold maxLen; omega) (by omega) (by simp) ?_; intro v4 w4 hown4 hgrow4 _; obtain ⟨g4, cp4, rfl, B4, O4⟩ := rec_four hk hown4 hgrow4; clear hown4 hgrow4))
    go_ret2
    exact recIs_some HR.out (rec_len hk) (own_has O4.out) B4.out
end Go.Proofs.Ytkiikaopoeglcaa
