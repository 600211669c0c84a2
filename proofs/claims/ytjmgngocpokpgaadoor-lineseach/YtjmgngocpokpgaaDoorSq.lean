/-
  What a text tells, line by line; what a sequence asks of those who go over it.
-/
import Derived.Test.YtjmgngocpokpgaaDoorRea
import Derived.Test.YtjmgngocpokpgaaDoorRange
namespace Go.Proofs.YtjmgngocpokpgaaDoor
open Go.RowKit
set_option linter.unusedVariables false
set_option linter.unusedSimpArgs false
/-- A token that is told, with a fault. -/
structure Tl where
  tk : Tk
  d : Int
  ln : Int
  e : Int
def tells (x : Tl) : Array Value := #[.agg x.tk.row.toArray, .agg #[.int .i64 x.d, .int .i64 x.ln, .int .i64 x.e]]
def zTk : Tk := ⟨0, 0, 0, [], false⟩
def okT (t : Tk) : Tl := ⟨t, 0, 0, 0⟩
def docN (ts : List Tk) : Nat := (ts.filter fun t => decide (t.kind = 1)).length
/-- What is told from a text on. -/
def linF : Nat → List UInt8 → Nat → Nat → List Tl
  | 0, _, _, _ => []
  | n + 1, rest, num, docs => if rest = [] then [] else if (readF (Lib.cut rest [10]).1 num).2 ≠ 0 then [⟨zTk, docs, num, (readF (Lib.cut rest [10]).1 num).2⟩]
    else (readF (Lib.cut rest [10]).1 num).1.map okT ++ linF n (Lib.cut rest [10]).2.1 (num + 1) (docs + docN (readF (Lib.cut rest [10]).1 num).1)
/-- All that is told of a text. -/
def allF (s : List UInt8) : List Tl := linF (s.length + 1) s 1 0
theorem docN_le (ts : List Tk) : docN ts ≤ ts.length := List.length_filter_le _ _
theorem docN_snoc (ts : List Tk) (t : Tk) : docN (ts ++ [t]) = docN ts + if t.kind = 1 then 1 else 0 := by
  unfold docN
  rw [List.filter_append]
  by_cases h : t.kind = 1 <;> simp [List.filter_cons, h]
theorem linF_nil (n num docs : Nat) : linF n [] num docs = [] := by
  cases n with
  | zero => rfl
  | succ n => rw [linF, if_pos rfl]
theorem cut10 (l : List UInt8) (h : l ≠ []) : (Lib.cut l [10]).1.length ≤ l.length ∧ (Lib.cut l [10]).2.1.length + (Lib.cut l [10]).1.length ≤ l.length ∧ (Lib.cut l [10]).2.1.length < l.length := by
  have h0 : 0 < l.length := List.length_pos_iff.2 h
  unfold Lib.cut
  split
  · simp; omega
  · simp; omega
/-- Tokens of a line are no more than its bytes. -/
theorem qtdF_few (num : Int) (l : List UInt8) (p : Nat) (ts : List Tk) (h1 : ts.length ≤ p) (h2 : p ≤ l.length) : (qtdF num l p ts).1.length ≤ l.length := by
  unfold qtdF
  rcases hd : l.drop p with _ | ⟨c, r⟩
  · simp
  · obtain ⟨_, hp⟩ := first_of hd
    dsimp only
    rcases unqF (c :: r) with _ | ⟨t, k⟩
    · simp
    · dsimp only
      split
      · simp; omega
      · simp
theorem scaF_few (num : Int) (l : List UInt8) (p : Nat) (ts : List Tk) (h1 : ts.length ≤ p) (h2 : p ≤ l.length) : (scaF num l p ts).1.length ≤ l.length := by
  unfold scaF
  rcases hd : l.drop p with _ | ⟨c, r⟩
  · simp
  · obtain ⟨_, hp⟩ := first_of hd
    dsimp only
    split
    · exact qtdF_few num l p ts h1 h2
    · rcases plnF (c :: r) with _ | ⟨d, t⟩
      · simp
      · simp; omega
theorem conF_few (num : Int) (l : List UInt8) : ∀ (n p : Nat) (ts : List Tk), ts.length ≤ p → p ≤ l.length → (conF num l n p ts).1.length ≤ l.length
  | 0, p, ts, h1, h2 => by simp [conF]
  | n + 1, p, ts, h1, h2 => by
    rw [conF]
    rcases hd : l.drop p with _ | ⟨c, r⟩
    · dsimp only; omega
    · obtain ⟨_, hp⟩ := first_of hd
      dsimp only
      split
      · dsimp only; omega
      · split
        · have := skpF_ge l (p + 1) (by omega)
          exact conF_few num l n _ _ (by simp; omega) (skpF_le _ _)
        · rcases hk : keyF (c :: r) with _ | ⟨t, k⟩
          · exact scaF_few num l p ts h1 h2
          · have hk' := keyF_le hk
            have hdl : (c :: r).length + p = l.length := by rw [← hd, List.length_drop]; omega
            have := skpF_ge l (p + k) (by omega)
            dsimp only
            split
            · simp; omega
            · exact scaF_few num l _ _ (by simp; omega) (skpF_le _ _)
theorem readF_few (l : List UInt8) (num : Int) : (readF l num).1.length ≤ l.length := by
  unfold readF
  split
  · simp
  · split
    · have := (doc_first ‹_›).2; simp; omega
    · exact conF_few num l _ _ _ (by simp) (skpF_le _ _)
/-- The blocks of those who go over it. -/
def Cs (F : List Nat) (v : Nat) (W : World) (k : Nat) : Prop := k ∈ F ∨ k = v ∨ ((W.cell? ⟨v, 0, none⟩).getD undef).ownBlock = some k
/-- What they leave as it is: all cells but their own. -/
structure Kc (F : List Nat) (v : Nat) (A B : World) : Prop where
  size : A.heap.size ≤ B.heap.size
  inv : (∀ k, Cs F v A k → k < A.heap.size) → ∀ k, Cs F v B k → k < B.heap.size
  keep : ∀ k o, A.heap[k]? = some o → o.isCells = true → ¬ Cs F v A k → B.heap[k]? = some o ∧ ¬ Cs F v B k
theorem Kc.refl (F : List Nat) (v : Nat) (A : World) : Kc F v A A := ⟨Nat.le_refl _, fun h => h, fun k o h _ hn => ⟨h, hn⟩⟩
theorem Kc.trans {F : List Nat} {v : Nat} {A B C : World} (h : Kc F v A B) (g : Kc F v B C) : Kc F v A C :=
  ⟨Nat.le_trans h.size g.size, fun hi => g.inv (h.inv hi), fun k o ho hc hn => by
    obtain ⟨h1, h2⟩ := h.keep k o ho hc hn
    exact g.keep k o h1 hc h2⟩
theorem cs_iff {F : List Nat} {v : Nat} {A B : World} (hc : B.cell? ⟨v, 0, none⟩ = A.cell? ⟨v, 0, none⟩) (k : Nat) : Cs F v B k ↔ Cs F v A k := by
  unfold Cs; rw [hc]
theorem Kc.of_below {F : List Nat} {v : Nat} {A B : World} (h : Below A.heap.size A B) (hv : v < A.heap.size) : Kc F v A B := by
  have hc : B.cell? ⟨v, 0, none⟩ = A.cell? ⟨v, 0, none⟩ := h.cell (p := ⟨v, 0, none⟩) hv
  exact ⟨h.size, fun hi k hk => Nat.lt_of_lt_of_le (hi k ((cs_iff hc k).1 hk)) h.size, fun k o ho _ hn => ⟨(h.block k (Array.getElem?_eq_some_iff.1 ho).1).trans ho, fun hk => hn ((cs_iff hc k).1 hk)⟩⟩
theorem Kc.put {F : List Nat} {v : Nat} {A : World} {l : Nat} {o o' : Obj} (hl : A.heap[l]? = some o) (hc : o.isCells = false) (hv : v ≠ l) : Kc F v A (A.putObj l o') := by
  have e : (A.putObj l o').cell? ⟨v, 0, none⟩ = A.cell? ⟨v, 0, none⟩ := World.cell?_of_block (w := A) (a := ⟨v, 0, none⟩) (World.putObj_heap_other hv)
  refine ⟨by simp, fun hi k hk => ?_, fun k o2 ho hc2 hn => ⟨?_, fun hk => hn ((cs_iff e k).1 hk)⟩⟩
  · have := hi k ((cs_iff e k).1 hk)
    simpa using this
  · refine (World.putObj_heap_other ?_).trans ho
    intro hkl
    subst hkl
    rw [hl] at ho
    cases ho
    rw [hc] at hc2
    cases hc2
/-- A row of others stays. -/
theorem Kc.row {F : List Nat} {v : Nat} {A B : World} (h : Kc F v A B) {base : Nat} {e : TypeId} {size : Nat} {u : Value} {n : Nat} {xs : List Value} (hr : A.ownsRow base e size u n xs) (hn : ∀ k, u.ownBlock = some k → ¬ Cs F v A k) : B.ownsRow base e size u n xs ∧ ∀ k, u.ownBlock = some k → ¬ Cs F v B k := by
  rcases hr.2 with ⟨rfl, h0⟩ | ⟨g, cap, cur, rfl, hbg, hgg, rest⟩
  · exact ⟨⟨hr.1, .inl ⟨rfl, h0⟩⟩, fun k hk => by cases hk⟩
  · obtain ⟨h1, h2⟩ := h.keep g _ hgg rfl (hn g rfl)
    exact ⟨⟨hr.1, .inr ⟨g, cap, cur, rfl, hbg, h1, rest⟩⟩, fun k hk => by cases hk; exact h2⟩
/-- The number that the library keeps for itself stays. -/
structure Mx (F : List Nat) (v : Nat) (m : Int) (W : World) : Prop where
  cell : W.cell? ⟨0, 0, none⟩ = some (.int .i64 m)
  not : ¬ Cs F v W 0
theorem cells_of_cell {W : World} {b o : Nat} {u : Value} (h : W.cell? ⟨b, o, none⟩ = some u) : ∃ ob : Obj, W.heap[b]? = some ob ∧ ob.isCells = true := by
  rcases hb : W.heap[b]? with _ | ob
  · simp [World.cell?, hb] at h
  · refine ⟨ob, rfl, ?_⟩
    cases ob <;> simp [World.cell?, hb] at h <;> rfl
theorem Mx.next {F : List Nat} {v : Nat} {m : Int} {A B : World} (h : Mx F v m A) (k : Kc F v A B) : Mx F v m B := by
  obtain ⟨ob, h1, h2⟩ := cells_of_cell h.cell
  obtain ⟨h3, h4⟩ := k.keep 0 ob h1 h2 h.not
  exact ⟨(World.cell?_of_block (w := A) (a := ⟨0, 0, none⟩) (h3.trans h1.symm)).trans h.cell, h4⟩
end Go.Proofs.YtjmgngocpokpgaaDoor
