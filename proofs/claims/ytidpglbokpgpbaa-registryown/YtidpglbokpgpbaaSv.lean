/- Services sorted by their names. -/
import Derived.Test.YtidpglbokpgpbaaLo
import Derived.Test.YtidpglbokpgpbaaShs
import Derived.Shelf.SlSortCmp.NoneTotal
import Derived.Sort.OwnSorted
namespace Go.Proofs.Ytidpglbokpgpbaa
open Go.RowKit Go.Sort
set_option linter.unusedVariables false
set_option linter.unusedSimpArgs false
set_option maxRecDepth 100000
instance : Inhabited Hx := ⟨⟨⟨#[]⟩, [], none, 0⟩⟩
/-- a text stands ahead of another -/
def sless (a b : ByteArray) : Bool := Op.bytesLess a.toList b.toList
def bcmp (a b : ByteArray) : Int := Go.Lib.compareBytes a.data.toList b.data.toList
theorem ba_toList_inj {a b : ByteArray} (h : a.toList = b.toList) : a = b := by
  rw [ByteArray.toList_eq, ByteArray.toList_eq] at h
  obtain ⟨x⟩ := a
  obtain ⟨y⟩ := b
  exact congrArg ByteArray.mk (Array.toList_inj.1 h)
theorem sless_irrefl (a : ByteArray) : sless a a = false := by
  unfold sless; rw [bytesLess_eq]; simp
theorem sless_trans {a b c : ByteArray} (h : sless a b = true) (g : sless b c = true) : sless a c = true := by
  unfold sless at *; rw [bytesLess_eq] at *
  have h1 := of_decide_eq_true h
  have h2 := of_decide_eq_true g
  exact decide_eq_true (List.lt_trans h1 h2)
theorem sless_total {a b : ByteArray} (h : sless a b = false) (hne : a ≠ b) : sless b a = true := by
  unfold sless at *; rw [bytesLess_eq] at *
  have h1 := of_decide_eq_false h
  refine decide_eq_true ?_
  have h2 := List.not_lt.1 h1
  rcases List.le_iff_lt_or_eq.1 h2 with h3 | h3
  · exact h3
  · exact absurd (ba_toList_inj h3).symm hne
theorem cmpL_lt : ∀ (a b : List UInt8), Go.Lib.compareBytes a b < 0 ↔ a < b
  | [], [] => by simp [Go.Lib.compareBytes]
  | [], _ :: _ => by simp [Go.Lib.compareBytes]
  | _ :: _, [] => by simp [Go.Lib.compareBytes]
  | a :: xs, b :: bs => by
    rw [Go.Lib.compareBytes, List.cons_lt_cons_iff]
    by_cases h1 : a < b
    · simp [h1]
    · by_cases h2 : b < a
      · have : a ≠ b := by rintro rfl; exact h1 h2
        simp [h1, h2, this]
      · have e : a = b := UInt8.le_antisymm (UInt8.not_lt.1 h2) (UInt8.not_lt.1 h1)
        subst e
        simp [cmpL_lt xs bs]
theorem bcmp_lt (a b : ByteArray) : bcmp a b < 0 ↔ sless a b = true := by
  unfold bcmp sless
  rw [cmpL_lt, bytesLess_eq, ByteArray.toList_eq, ByteArray.toList_eq, decide_eq_true_iff]
theorem lt_sv (x y : Hx) : Go.Proofs.ltOf (fun x y : Hx => bcmp x.sv y.sv) x y = sless x.sv y.sv := by
  unfold Go.Proofs.ltOf
  rw [Bool.eq_iff_iff, decide_eq_true_iff, bcmp_lt]
theorem swo_sv : SWO (Go.Proofs.ltOf (fun x y : Hx => bcmp x.sv y.sv)) where
  irrefl x := by rw [lt_sv]; exact sless_irrefl _
  trans x y z h g := by rw [lt_sv] at *; exact sless_trans h g
  ntrans x y z h g := by
    rw [lt_sv] at *
    rw [Bool.eq_false_iff]
    intro k
    by_cases e : y.sv = z.sv
    · rw [← e] at k; rw [h] at k; cases k
    · have := sless_trans k (sless_total g e)
      rw [h] at this; cases this
theorem byName_any (x y : Hx) (W : World) : Calls Try.prog 32 #[.agg x.row.toArray, .agg y.row.toArray] W fun e w' => e = .returned (.int .i64 (bcmp x.sv y.sv)) ∧ Gr W w' := by
  have hc := fun W' => Try.strings_Compare x.sv y.sv W'
  have hc2 : ∀ W', Calls Try.prog 46 #[.string x.sv, .string y.sv] W' fun e w' => e = .returned (.int .i64 (bcmp x.sv y.sv)) ∧ w' = W' := hc
  clear hc
  generalize bcmp x.sv y.sv = c at hc2 ⊢
  unfold Hx.row
  obtain ⟨sx, ex, ax, kx⟩ := x
  obtain ⟨sy, ey, ay, ky⟩ := y
  dsimp only at *
  generalize ex.length = lx
  generalize ey.length = ly
  go_enter Try.func32, Try.ntmps32
  go_wp2_with (go_at_call 46; refine (hc2 _).mono ?_; rintro e w' ⟨rfl, hw⟩; have hw := hw.symm; subst hw)
  go_ret
  exact ⟨rfl, (Gr.alloc _ _).trans (Gr.alloc _ _)⟩
theorem flat_rows (d : Array Hx) : (flatK Hx.row 2 d).toList = rowsOf Hx.row d.toList := by
  apply List.ext_getElem?
  intro t
  by_cases ht : t < d.size * 2
  · have h2 : t / 2 < d.size := by omega
    have e1 : (flatK Hx.row 2 d)[t]! = (Hx.row d[t / 2]!)[t % 2]! := get_flatK _ _ _ _ ht
    rw [getElem!_pos d _ h2] at e1
    have h3 : t % 2 < (Hx.row d[t / 2]).length := by rw [hx_len]; omega
    have h4 := rowsOf_at Hx.row 2 hx_len d.toList (t / 2) d[t / 2] (by simp [h2]) (t % 2) _ (List.getElem?_eq_getElem h3)
    rw [show t / 2 * 2 + t % 2 = t by omega] at h4
    rw [h4, Array.getElem?_toList, Array.getElem?_eq_getElem (by simpa using ht)]
    rw [getElem!_pos _ t (by simpa using ht), List.getElem!_eq_getElem?_getD, List.getElem?_eq_getElem h3] at e1
    rw [e1]; rfl
  · rw [List.getElem?_eq_none (by simp; omega), List.getElem?_eq_none (by rw [rowsOf_length Hx.row 2 hx_len]; simp; omega)]
theorem take_putI (cur F : Array Value) (h : F.size ≤ cur.size) : (putCells id 0 F cur).toList.take F.size = F.toList := by
  apply List.ext_getElem?
  intro j
  by_cases hj : j < F.size
  · rw [List.getElem?_take_of_lt hj, Array.getElem?_toList]
    simp [putCells, hj, show j < cur.size by omega]
  · rw [List.getElem?_take_eq_none (by omega), List.getElem?_eq_none (by simp; omega)]
theorem heap_sortedK {w : World} {g n : Nat} {os : Array Obj} {cur : Array Value} {e : TypeId} {fr : Nat × Nat} (d : Array Hx) (hb : w.heap[g]? = some (.cells cur e fr)) :
    (sortWorldK Hx.row 2 w g 0 n d os).heap[g]? = some (.cells (putCells id 0 (flatK Hx.row 2 d) cur) e fr) := by
  have hg : g < w.heap.size := (Array.getElem?_eq_some_iff.1 hb).1
  unfold sortWorldK putRowK
  rw [heap_grow_old _ _ (by simpa using hg)]
  simp [putRow, mapBlock, Sort.ahead, Array.getElem?_modify, hb, onCells]
theorem but_sortedK {w : World} {g n : Nat} {os : Array Obj} (d : Array Hx) : But g w (sortWorldK Hx.row 2 w g 0 n d os) := by
  unfold sortWorldK putRowK
  refine ⟨rfl, rfl, rfl, by simp, fun k hk hne => ?_⟩
  rw [heap_grow_old _ _ (by simpa using hk)]
  simp [putRow, mapBlock, Sort.ahead, Array.getElem?_modify, Ne.symm hne]
set_option maxHeartbeats 4000000 in
theorem sortS_any (W : World) (base : Nat) (a : Option Addr) (n c : Nat) (os : List Hx) (hn : os.length = n) (ho : Ov W base 78 (.slice a n c) os) :
    Calls Try.prog 31 #[.slice a n c, .func (.func 32) #[] #[]] W fun e w' => e = .returned (.tuple #[]) ∧ ∃ qs : List Hx, qs.Perm os ∧ qs.Pairwise (fun p q => sless q.sv p.sv = false) ∧ Ov w' base 78 (.slice a n c) qs ∧ Below base W w' := by
  subst hn
  have hb0 := ho.le
  rcases ho.row.2 with ⟨e, h0⟩ | ⟨g, cap, cur, e, hbase, hb, hc1, hc2, hc3, hc4⟩
  · obtain rfl : os = [] := List.length_eq_zero_iff.1 h0
    cases e
    refine (AnyF.slices_SortFunc_none { Try.laysSlF06_f31 with } none 0 (.func (.func 32) #[] #[]) W).mono ?_
    rintro e w' ⟨rfl, rfl⟩
    exact ⟨rfl, [], List.Perm.nil, List.Pairwise.nil, ho, Below.refl _ _⟩
  · cases e
    have hg : g < W.heap.size := lt_of_block hb
    have hrl : (rowsOf Hx.row os).length = os.length * 2 := by rw [rowsOf_length Hx.row 2 hx_len]
    have hH : HoldsK Hx.row 2 W g 0 os.toArray := by
      intro j hj
      have hj' : j < os.length * 2 := by simpa using hj
      refine ⟨?_, by simp [World.frozen?, hb]⟩
      have h1 : (cur.toList.take (os.length * 2))[j]? = (rowsOf Hx.row os)[j]? := by rw [hc4]
      rw [List.getElem?_take_of_lt (by omega)] at h1
      have h2 := flat_rows os.toArray
      simp only [World.cell?, hb, Nat.zero_add]
      simp only [Option.isSome_none, Bool.false_eq_true, if_false]
      rw [← Array.getElem?_toList, h1]
      rw [show rowsOf Hx.row os = (flatK Hx.row 2 os.toArray).toList from h2.symm, Array.getElem?_toList, Array.getElem?_eq_getElem hj, getElem!_pos _ j hj]
      rfl
    have eg : ∀ args w, (callFunc 32 args).run Try.prog w = .ok (.enter 32 args) w := enters_of Try.func32 (by kernel_rfl) rfl
    have hcmp : CmpLays Try.prog 32 #[] Hx.row 2 (fun x y : Hx => bcmp x.sv y.sv) g 0 os.toArray.size W := fun m os' dk hsz x y => byName_any x y _
    have hcon := AnyQ.slices_SortFunc Try.laysSlF06_f31 2 (fun w => by kernel_rfl) (fun w => by kernel_rfl) Hx.row hx_len (fun x => hx_one x) (fun x y : Hx => bcmp x.sv y.sv) swo_sv 32 #[] g 0 c os.toArray W eg hcmp hH hg (by simp; omega)
    have hsz0 : os.toArray.size = os.length := by simp
    rw [hsz0] at hcon
    refine hcon.mono ?_
    rintro e w' ⟨rfl, d', nn, os', ⟨hsz, _, hp⟩, hso, rfl⟩
    rw [hsz0] at hsz
    have hfull : d'.extract 0 os.length = d' := by rw [← hsz]; simp
    have hfulld : os.toArray.extract 0 os.length = os.toArray := by rw [← hsz0]; simp
    rw [hfull, hfulld] at hp
    have hp2 : d'.toList.Perm os := hp
    refine ⟨rfl, d'.toList, hp2, ?_, ⟨⟨?_, .inr ⟨g, c, _, by rw [hp2.length_eq], hbase, heap_sortedK d' hb, ?_, hc2, ?_, ?_⟩⟩, ?_, by rw [hp2.length_eq]; exact hb0⟩, (but_sortedK d').below (Nat.le_of_lt (Nat.lt_of_le_of_lt hbase hg)) hbase⟩
    · rw [List.pairwise_iff_getElem]
      intro i j hi hj hij
      have hi' : i < d'.size := by simpa using hi
      have hj' : j < d'.size := by simpa using hj
      have := hso i j (Nat.zero_le _) hij (by omega)
      rw [getElem!_pos d' i hi', getElem!_pos d' j hj', lt_sv] at this
      simpa using this
    · rw [rowsOf_length Hx.row 2 hx_len]
    · rw [hp2.length_eq]; exact hc1
    · simp [putCells, hc3]
    · have hF : (flatK Hx.row 2 d').size = d'.toList.length * 2 := by simp
      rw [← hF, take_putI cur _ (by rw [size_flatK, hsz, hc3]; omega), flat_rows]
    · intro o hoo
      exact (ho.each o (hp2.mem_iff.1 hoo)).keep (fun k cs hk hcc => (but_sortedK d').block k (lt_of_block hcc) (fun e => by subst e; rw [hb] at hcc; cases hcc))
end Go.Proofs.Ytidpglbokpgpbaa
