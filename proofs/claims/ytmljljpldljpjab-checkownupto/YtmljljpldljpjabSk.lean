/-
  Places sorted by the keys of what lies there.
-/
import Derived.Test.YtmljljpldljpjabCl
import Derived.Test.YtmljljpldljpjabKo
import Derived.Test.YtmljljpldljpjabShs
namespace Go.Proofs.Ytmljljpldljpjab
open Go.RowKit
set_option linter.unusedVariables false
set_option linter.unusedSimpArgs false
set_option maxRecDepth 100000
def encF {m : Nat} (x : Fin m) : Value := .int .i64 (x.val : Int)
theorem ck_swo {m : Nat} (key : Fin m → Int × ByteArray) : Go.Sort.SWO (ltOf (fun x y => kcmp (key x) (key y))) where
  irrefl x := by
    unfold ltOf
    rw [decide_eq_false_iff_not, kcmp_lt]
    exact klt_irrefl _
  trans x y z h g := by
    unfold ltOf at *
    rw [decide_eq_true_iff, kcmp_lt] at *
    exact klt_trans h g
  ntrans x y z h g := by
    unfold ltOf at *
    rw [decide_eq_false_iff_not, kcmp_lt] at *
    intro k
    by_cases e : key y = key z
    · rw [← e] at k; exact h k
    · rcases klt_total e with l | l
      · exact g l
      · exact h (klt_trans k l)
theorem cell_sortWorld {α : Type} [Inhabited α] (enc : α → Value) (w : World) (blk off m : Nat) (dk : Array α) (os : Array Obj) {p : Addr} {v : Value} (hne : p.block ≠ blk) (h : w.cell? p = some v) : (sortWorld enc w blk off m dk os).cell? p = some v := by
  have h1 : (Go.Sort.putRow enc (Go.Sort.ahead w m) blk off dk).cell? p = some v := by
    rw [Go.Sort.cell?_putRow_other enc _ blk off dk p (.inl hne)]
    exact h
  have hb : Below (Go.Sort.putRow enc (Go.Sort.ahead w m) blk off dk).heap.size (Go.Sort.putRow enc (Go.Sort.ahead w m) blk off dk) (sortWorld enc w blk off m dk os) := Gr.below ⟨0, os, rfl⟩
  exact cell_of_below hb h1
theorem Cel.sortWorld {α : Type} [Inhabited α] (enc : α → Value) (w : World) (blk off m : Nat) (dk : Array α) (os : Array Obj) {a : Option Addr} {k : Nat} {rows : List (List Value)} (hne : ∀ g o, a = some ⟨g, o, none⟩ → g ≠ blk) (h : Cel w a k rows) : Cel (sortWorld enc w blk off m dk os) a k rows := by
  rcases h with h | ⟨g, o, h1, h2⟩
  · exact .inl h
  · exact .inr ⟨g, o, h1, fun i r hi j u hu => cell_sortWorld enc w blk off m dk os (hne g o h1) (h2 i r hi j u hu)⟩
theorem but_sortWorld {α : Type} [Inhabited α] (enc : α → Value) (w : World) (blk off m : Nat) (dk : Array α) (os : Array Obj) : But blk w (sortWorld enc w blk off m dk os) := by
  refine ⟨rfl, rfl, rfl, ?_, fun j hj hne => ?_⟩
  · unfold Go.Proofs.sortWorld
    rw [Go.Sort.size_grow]
    simp [Go.Sort.putRow, Go.Sort.mapBlock, Go.Sort.ahead]
  · have hb : Below (Go.Sort.putRow enc (Go.Sort.ahead w m) blk off dk).heap.size (Go.Sort.putRow enc (Go.Sort.ahead w m) blk off dk) (Go.Proofs.sortWorld enc w blk off m dk os) := Gr.below ⟨0, os, rfl⟩
    rw [hb.block j (by simp [Go.Sort.putRow, Go.Sort.mapBlock, Go.Sort.ahead]; exact hj)]
    simp [Go.Sort.putRow, Go.Sort.mapBlock, Go.Sort.ahead, Array.getElem?_modify, Ne.symm hne]
theorem extract_full {α : Type} (d : Array α) (n : Nat) (h : d.size = n) : d.extract 0 n = d := by subst h; simp
theorem finRange_val (n : Nat) : (List.finRange n).map Fin.val = List.range n := by
  apply List.ext_getElem
  · simp
  · intro i h1 h2; simp
/-- what the sort leaves -/
structure Sorts (w w' : World) (blk : Nat) (os : List Rx) (ps : List Nat) : Prop where
  perm : ps.Perm (List.range os.length)
  ord : ps.Pairwise (fun i j => ∀ p q, os[i]? = some p → os[j]? = some q → ¬ klt q.key p.key)
  cells : ∀ (j : Nat) (p : Nat), ps[j]? = some p → w'.cell? ⟨blk, j, none⟩ = some (.int .i64 p)
  but : But blk w w'
set_option maxHeartbeats 4000000 in
theorem sort_some (W : World) (B : Nat) (a : Option Addr) (n c cap blk : Nat) (os : List Rx) (hB : W.cell? ⟨B, 0, none⟩ = some (.slice a n c)) (hL : Cel W a 8 (os.map Rx.row)) (hn : os.length = n) (hs : n ≤ 4194304) (h0 : 0 < n)
    (hP : ∀ j, j < n → W.cell? ⟨blk, j, none⟩ = some (.int .i64 j) ∧ W.frozen? ⟨blk, j, none⟩ = false) (hblk : blk < W.heap.size) (hne : B ≠ blk) (hne2 : ∀ g o, a = some ⟨g, o, none⟩ → g ≠ blk) :
    Calls Try.prog 30 #[.slice (some ⟨blk, 0, none⟩) n cap, .func (.func 31) #[] #[.pointer (some ⟨B, 0, none⟩)]] W fun e w' => e = .returned (.tuple #[]) ∧ ∃ ps, Sorts W w' blk os ps := by
  obtain ⟨m, rfl⟩ : ∃ m, n = m + 1 := ⟨n - 1, by omega⟩
  have hget : ∀ x : Fin (m + 1), os[x.val]? = some (os[x.val]'(by have := x.isLt; omega)) := fun x => List.getElem?_eq_getElem _
  let key : Fin (m + 1) → Int × ByteArray := fun x => (os[x.val]'(by have := x.isLt; omega)).key
  let d : Array (Fin (m + 1)) := (List.finRange (m + 1)).toArray
  have hds : d.size = m + 1 := by simp [d]
  have hdk : ∀ j (hj : j < m + 1), d[j]! = ⟨j, hj⟩ := by
    intro j hj
    rw [getElem!_pos d j (by omega)]
    simp [d]
  have eg : ∀ args w, (callFunc 31 args).run Try.prog w = .ok (.enter 31 args) w := enters_of Try.func31 (by kernel_rfl) rfl
  have hcmp : CmpLays1 Try.prog 31 #[.pointer (some ⟨B, 0, none⟩)] encF (fun x y => kcmp (key x) (key y)) blk 0 d.size W := by
    intro mm os' dk hsz x y
    have := closure_any (sortWorld encF W blk 0 mm dk os') B a (m + 1) c os x.val y.val _ _ (cell_sortWorld encF W blk 0 mm dk os' hne hB) (Cel.sortWorld encF W blk 0 mm dk os' hne2 hL) hn hs (hget x) (hget y)
    exact this
  have hH : Go.Sort.Holds encF W blk 0 d := by
    intro j hj
    rw [hds] at hj
    rw [hdk j hj, Nat.zero_add]
    exact hP j hj
  have hcon := Try.slices_SortFunc encF (fun _ => rfl) (fun x y => kcmp (key x) (key y)) (ck_swo key) 31 #[.pointer (some ⟨B, 0, none⟩)] blk 0 cap d W eg hcmp hH hblk (by rw [hds]; omega)
  rw [hds] at hcon
  refine hcon.mono ?_
  rintro e w' ⟨rfl, d', nn, os', ⟨hsz, _, hp⟩, hso, rfl⟩
  rw [hds] at hsz
  have hfull : (d'.extract 0 (m + 1)) = d' := extract_full _ _ hsz
  have hfulld : (d.extract 0 (m + 1)) = d := extract_full _ _ hds
  rw [hfull, hfulld] at hp
  refine ⟨rfl, d'.toList.map Fin.val, ?_, ?_, ?_, but_sortWorld _ _ _ _ _ _ _⟩
  · have := hp.map Fin.val
    rw [hn]
    have e1 : d.toList.map Fin.val = List.range (m + 1) := by simp only [d]; exact finRange_val _
    rw [← e1]; exact this
  · rw [List.pairwise_map, List.pairwise_iff_getElem]
    intro i j hi hj hij p q hp1 hq1
    have hi' : i < d'.size := by simpa using hi
    have hj' : j < d'.size := by simpa using hj
    have := hso i j (Nat.zero_le _) hij (by omega)
    rw [getElem!_pos d' i hi', getElem!_pos d' j hj'] at this
    unfold ltOf at this
    rw [decide_eq_false_iff_not, kcmp_lt] at this
    have g1 := hget d'[i]
    have g2 := hget d'[j]
    simp only [Array.getElem_toList] at hp1 hq1
    rw [hp1] at g1; rw [hq1] at g2
    cases g1; cases g2
    exact this
  · intro j p hj
    simp only [List.getElem?_map, Option.map_eq_some_iff] at hj
    obtain ⟨x, hx, rfl⟩ := hj
    have hj' : j < d'.size := by
      have := (List.getElem?_eq_some_iff.1 hx).1; simpa using this
    have h1 := Go.Sort.cell?_putRow encF (Go.Sort.ahead W nn) blk 0 d d' hH (by omega) j hj'
    rw [Nat.zero_add] at h1
    have hb : Below (Go.Sort.putRow encF (Go.Sort.ahead W nn) blk 0 d').heap.size (Go.Sort.putRow encF (Go.Sort.ahead W nn) blk 0 d') (sortWorld encF W blk 0 nn d' os') := Gr.below ⟨0, os', rfl⟩
    have h2 := cell_of_below hb h1
    rw [h2]
    have : d'[j]! = x := by
      rw [getElem!_pos d' j hj']
      have := (List.getElem?_eq_some_iff.1 hx).2
      simpa using this
    rw [this]; rfl
end Go.Proofs.Ytmljljpldljpjab
