import Derived.Test.YtmmnpnhffgpchaaGreatDoorBn7
import Derived.Test.YtmmnpnhffgpchaaGreatDoorLRange
/-
  What a text tells, line by line; what a sequence asks of those who go over it.
-/
namespace Go.Proofs.YtmmnpnhffgpchaaGreatDoor.Ln
open Go.RowKit
set_option linter.unusedVariables false
set_option linter.unusedSimpArgs false
/-- A token that is told, with a fault. -/
structure Tl where
  tk : Tk
  d : Int
  ln : Int
  e : Int
def tells (x : Tl) : Array Value := #[.agg x.tk.row.toArray, .agg #[.int .i64 x.d, .int .i64 x.ln, .int .i64 x.e]]
def zTk : Tk := ⟨0, 0, 0, [], false⟩
def okT (t : Tk) : Tl := ⟨t, 0, 0, 0⟩
def docN (ts : List Tk) : Nat := (ts.filter fun t => decide (t.kind = 1)).length
/-- What is told from a text on. -/
def linF : Nat → List UInt8 → Nat → Nat → List Tl
  | 0, _, _, _ => []
  | n + 1, rest, num, docs => if rest = [] then [] else if (readF (Lib.cut rest [10]).1 num).2 ≠ 0 then [⟨zTk, docs, num, (readF (Lib.cut rest [10]).1 num).2⟩]
    else (readF (Lib.cut rest [10]).1 num).1.map okT ++ linF n (Lib.cut rest [10]).2.1 (num + 1) (docs + docN (readF (Lib.cut rest [10]).1 num).1)
/-- All that is told of a text. -/
def allF (s : List UInt8) : List Tl := linF (s.length + 1) s 1 0
theorem docN_le (ts : List Tk) : docN ts ≤ ts.length := List.length_filter_le _ _
theorem docN_snoc (ts : List Tk) (t : Tk) : docN (ts ++ [t]) = docN ts + if t.kind = 1 then 1 else 0 := by
  unfold docN
  rw [List.filter_append]
  by_cases h : t.kind = 1 <;> simp [List.filter_cons, h]
theorem linF_nil (n num docs : Nat) : linF n [] num docs = [] := by
  cases n with
  | zero => rfl
  | succ n => rw [linF, if_pos rfl]
theorem cut10 (l : List UInt8) (h : l ≠ []) : (Lib.cut l [10]).1.length ≤ l.length ∧ (Lib.cut l [10]).2.1.length + (Lib.cut l [10]).1.length ≤ l.length ∧ (Lib.cut l [10]).2.1.length < l.length := by
  have h0 : 0 < l.length := List.length_pos_iff.2 h
  unfold Lib.cut
  split
  · simp; omega
  · simp; omega
/-- Tokens of a line are no more than its bytes. -/
theorem qtdF_few (num : Int) (l : List UInt8) (p : Nat) (ts : List Tk) (h1 : ts.length ≤ p) (h2 : p ≤ l.length) : (qtdF num l p ts).1.length ≤ l.length := by
  unfold qtdF
  rcases hd : l.drop p with _ | ⟨c, r⟩
  · simp
  · obtain ⟨_, hp⟩ := first_of hd
    dsimp only
    rcases unqF (c :: r) with _ | ⟨t, k⟩
    · simp
    · dsimp only
      split
      · simp; omega
      · simp
theorem scaF_few (num : Int) (l : List UInt8) (p : Nat) (ts : List Tk) (h1 : ts.length ≤ p) (h2 : p ≤ l.length) : (scaF num l p ts).1.length ≤ l.length := by
  unfold scaF
  rcases hd : l.drop p with _ | ⟨c, r⟩
  · simp
  · obtain ⟨_, hp⟩ := first_of hd
    dsimp only
    split
    · exact qtdF_few num l p ts h1 h2
    · rcases plnF (c :: r) with _ | ⟨d, t⟩
      · simp
      · simp; omega
theorem conF_few (num : Int) (l : List UInt8) : ∀ (n p : Nat) (ts : List Tk), ts.length ≤ p → p ≤ l.length → (conF num l n p ts).1.length ≤ l.length
  | 0, p, ts, h1, h2 => by simp [conF]
  | n + 1, p, ts, h1, h2 => by
    rw [conF]
    rcases hd : l.drop p with _ | ⟨c, r⟩
    · dsimp only; omega
    · obtain ⟨_, hp⟩ := first_of hd
      dsimp only
      split
      · dsimp only; omega
      · split
        · have := skpF_ge l (p + 1) (by omega)
          exact conF_few num l n _ _ (by simp; omega) (skpF_le _ _)
        · rcases hk : keyF (c :: r) with _ | ⟨t, k⟩
          · exact scaF_few num l p ts h1 h2
          · have hk' := keyF_le hk
            have hdl : (c :: r).length + p = l.length := by rw [← hd, List.length_drop]; omega
            have := skpF_ge l (p + k) (by omega)
            dsimp only
            split
            · simp; omega
            · exact scaF_few num l _ _ (by simp; omega) (skpF_le _ _)
theorem readF_few (l : List UInt8) (num : Int) : (readF l num).1.length ≤ l.length := by
  unfold readF
  split
  · simp
  · split
    · have := (doc_first ‹_›).2; simp; omega
    · exact conF_few num l _ _ _ (by simp) (skpF_le _ _)
/-- The blocks of those who go over it. -/
def Cs (F : List Nat) (v : Nat) (W : World) (k : Nat) : Prop := k ∈ F ∨ k = v ∨ ((W.cell? ⟨v, 0, none⟩).getD undef).ownBlock = some k
/-- What they leave as it is: all cells but their own. -/
structure Kc (F : List Nat) (v : Nat) (A B : World) : Prop where
  size : A.heap.size ≤ B.heap.size
  inv : (∀ k, Cs F v A k → k < A.heap.size) → ∀ k, Cs F v B k → k < B.heap.size
  keep : ∀ k o, A.heap[k]? = some o → o.isCells = true → ¬ Cs F v A k → B.heap[k]? = some o ∧ ¬ Cs F v B k
theorem Kc.refl (F : List Nat) (v : Nat) (A : World) : Kc F v A A := ⟨Nat.le_refl _, fun h => h, fun k o h _ hn => ⟨h, hn⟩⟩
theorem Kc.trans {F : List Nat} {v : Nat} {A B C : World} (h : Kc F v A B) (g : Kc F v B C) : Kc F v A C :=
  ⟨Nat.le_trans h.size g.size, fun hi => g.inv (h.inv hi), fun k o ho hc hn => by
    obtain ⟨h1, h2⟩ := h.keep k o ho hc hn
    exact g.keep k o h1 hc h2⟩
theorem cs_iff {F : List Nat} {v : Nat} {A B : World} (hc : B.cell? ⟨v, 0, none⟩ = A.cell? ⟨v, 0, none⟩) (k : Nat) : Cs F v B k ↔ Cs F v A k := by
  unfold Cs; rw [hc]
theorem Kc.of_below {F : List Nat} {v : Nat} {A B : World} (h : Below A.heap.size A B) (hv : v < A.heap.size) : Kc F v A B := by
  have hc : B.cell? ⟨v, 0, none⟩ = A.cell? ⟨v, 0, none⟩ := h.cell (p := ⟨v, 0, none⟩) hv
  exact ⟨h.size, fun hi k hk => Nat.lt_of_lt_of_le (hi k ((cs_iff hc k).1 hk)) h.size, fun k o ho _ hn => ⟨(h.block k (Array.getElem?_eq_some_iff.1 ho).1).trans ho, fun hk => hn ((cs_iff hc k).1 hk)⟩⟩
theorem Kc.put {F : List Nat} {v : Nat} {A : World} {l : Nat} {o o' : Obj} (hl : A.heap[l]? = some o) (hc : o.isCells = false) (hv : v ≠ l) : Kc F v A (A.putObj l o') := by
  have e : (A.putObj l o').cell? ⟨v, 0, none⟩ = A.cell? ⟨v, 0, none⟩ := World.cell?_of_block (w := A) (a := ⟨v, 0, none⟩) (World.putObj_heap_other hv)
  refine ⟨by simp, fun hi k hk => ?_, fun k o2 ho hc2 hn => ⟨?_, fun hk => hn ((cs_iff e k).1 hk)⟩⟩
  · have := hi k ((cs_iff e k).1 hk)
    simpa using this
  · refine (World.putObj_heap_other ?_).trans ho
    intro hkl
    subst hkl
    rw [hl] at ho
    cases ho
    rw [hc] at hc2
    cases hc2
/-- A row of others stays. -/
theorem Kc.row {F : List Nat} {v : Nat} {A B : World} (h : Kc F v A B) {base : Nat} {e : TypeId} {size : Nat} {u : Value} {n : Nat} {xs : List Value} (hr : A.ownsRow base e size u n xs) (hn : ∀ k, u.ownBlock = some k → ¬ Cs F v A k) : B.ownsRow base e size u n xs ∧ ∀ k, u.ownBlock = some k → ¬ Cs F v B k := by
  rcases hr.2 with ⟨rfl, h0⟩ | ⟨g, cap, cur, rfl, hbg, hgg, rest⟩
  · exact ⟨⟨hr.1, .inl ⟨rfl, h0⟩⟩, fun k hk => by cases hk⟩
  · obtain ⟨h1, h2⟩ := h.keep g _ hgg rfl (hn g rfl)
    exact ⟨⟨hr.1, .inr ⟨g, cap, cur, rfl, hbg, h1, rest⟩⟩, fun k hk => by cases hk; exact h2⟩
/-- The number that the library keeps for itself stays. -/
structure Mx (F : List Nat) (v : Nat) (m : Int) (W : World) : Prop where
  cell : W.cell? ⟨0, 0, none⟩ = some (.int .i64 m)
  not : ¬ Cs F v W 0
theorem cells_of_cell {W : World} {b o : Nat} {u : Value} (h : W.cell? ⟨b, o, none⟩ = some u) : ∃ ob : Obj, W.heap[b]? = some ob ∧ ob.isCells = true := by
  rcases hb : W.heap[b]? with _ | ob
  · simp [World.cell?, hb] at h
  · refine ⟨ob, rfl, ?_⟩
    cases ob <;> simp [World.cell?, hb] at h <;> rfl
theorem Mx.next {F : List Nat} {v : Nat} {m : Int} {A B : World} (h : Mx F v m A) (k : Kc F v A B) : Mx F v m B := by
  obtain ⟨ob, h1, h2⟩ := cells_of_cell h.cell
  obtain ⟨h3, h4⟩ := k.keep 0 ob h1 h2 h.not
  exact ⟨(World.cell?_of_block (w := A) (a := ⟨0, 0, none⟩) (h3.trans h1.symm)).trans h.cell, h4⟩
end Go.Proofs.YtmmnpnhffgpchaaGreatDoor.Ln

/-
  The sequence that lines.Each tells: its word.
-/
namespace Go.Proofs.YtmmnpnhffgpchaaGreatDoor.Ln
open Go.RowKit Go.Shelf
set_option linter.unusedVariables false
set_option linter.unusedSimpArgs false
attribute [local go_sem] Oper.semAt_some
theorem cut10_call (l : List UInt8) (m : Int) (w : World) (hs : l.length ≤ 2 ^ 30) (hm : w.cell? ⟨0, 0, none⟩ = some (.int .i64 m)) (a b : List UInt8) (f : Bool) (h : Lib.cut l [10] = (a, b, f)) :
    Calls Tryz.prog 27 #[.string ⟨l.toArray⟩, .string ⟨#[10]⟩] w fun e w' => e = .returned (.tuple #[.string ⟨a.toArray⟩, .string ⟨b.toArray⟩, .bool f]) ∧ Below w.heap.size w w' := by
  have := Tryz.strings_Cut ⟨l.toArray⟩ ⟨#[10]⟩ m w (show l.length < _ by omega) hm
  have e : Lib.cut (ByteArray.mk l.toArray).data.toList (ByteArray.mk #[10]).data.toList = (a, b, f) := h
  rw [e] at this
  refine this.mono ?_
  rintro e w' ⟨rfl, q, rfl⟩
  exact ⟨rfl, below_drewN (Below.refl _ _) q⟩
theorem own_sh {w : World} {base : Nat} {e : TypeId} {size : Nat} {v : Value} {n : Nat} {xs : List Value} (h : w.ownsRow base e size v n xs) : ∃ a c, v = .slice a n c ∧ (0 < n → ∃ g, a = some ⟨g, 0, none⟩) := by
  rcases h.2 with ⟨rfl, rfl⟩ | ⟨g, cap, cur, rfl, _⟩
  · exact ⟨none, 0, rfl, fun h => by omega⟩
  · exact ⟨_, cap, rfl, fun _ => ⟨g, rfl⟩⟩
theorem flat_row (ts : List Tk) (i j : Nat) (t : Tk) (h : ts[i]? = some t) (hj : j < 5) : (ts.flatMap Tk.row)[i * 5 + j]? = t.row[j]? := by
  induction ts generalizing i with
  | nil => cases h
  | cons x xs ih =>
    cases i with
    | zero =>
      cases h
      rw [List.flatMap_cons, List.getElem?_append_left (by show 0 * 5 + j < 5; omega)]
      simp
    | succ i =>
      rw [List.flatMap_cons, List.getElem?_append_right (by show 5 ≤ _; omega)]
      have : (i + 1) * 5 + j - x.row.length = i * 5 + j := by show (i + 1) * 5 + j - 5 = _; omega
      rw [this]
      exact ih i h
/-- A token's cells in a row of tokens. -/
theorem row_cell {w : World} {base g n c : Nat} {ts : List Tk} (h : w.ownsRow base 52 5 (.slice (some ⟨g, 0, none⟩) n c) n (ts.flatMap Tk.row)) (i : Nat) (t : Tk) (ht : ts[i]? = some t) (j : Nat) (u : Value) (hj : j < 5) (hu : t.row[j]? = some u) : w.cell? ⟨g, i * 5 + j, none⟩ = some u := by
  have := h.cells rfl (i * 5 + j) u (by rw [flat_row ts i j t ht hj]; exact hu)
  rwa [Go.WideShapes.add_plain, Nat.zero_add] at this
/-- What stands between two of the sequence's steps. -/
structure Std (F : List Nat) (v : Nat) (m : Int) (W0 : World) (J : List Tl → World → Prop) (pre : List Tl) (W : World) : Prop where
  j : J pre W
  mx : Mx F v m W
  lt : v < W.heap.size
  inv : ∀ k, Cs F v W k → k < W.heap.size
  size : W0.heap.size ≤ W.heap.size
theorem Std.below {F : List Nat} {v : Nat} {m : Int} {W0 : World} {J : List Tl → World → Prop} {pre : List Tl} {W W' : World} (h : Std F v m W0 J pre W) (hJa : AbidesFrom W0.heap.size J) (hb : Below W.heap.size W W') : Std F v m W0 J pre W' := by
  have k : Kc F v W W' := Kc.of_below hb h.lt
  exact ⟨hJa pre W W' none h.j ⟨hb.os, hb.tape, hb.output, hb.size, fun j hj _ => hb.block j hj⟩ (fun r h => by cases h), h.mx.next k, Nat.lt_of_lt_of_le h.lt hb.size, k.inv h.inv, Nat.le_trans h.size hb.size⟩
theorem Std.next {F : List Nat} {v : Nat} {m : Int} {W0 : World} {J : List Tl → World → Prop} {pre pre' : List Tl} {W W' : World} (h : Std F v m W0 J pre W) (hj : J pre' W') (k : Kc F v W W') : Std F v m W0 J pre' W' :=
  ⟨hj, h.mx.next k, Nat.lt_of_lt_of_le h.lt k.size, k.inv h.inv, Nat.le_trans h.size k.size⟩
set_option maxRecDepth 100000 in
set_option maxHeartbeats 4000000 in
theorem each2_in (m : Nat) (hm : 1 ≤ m) (l Bn : Nat) (s : List UInt8) (hs : s.length ≤ 65536) (mm : Int) (F : List Nat) (v : Nat) (J Jx : List Tl → World → Prop) (W0 : World) (hJa : AbidesFrom W0.heap.size J)
    (hY : ∀ pre x W1, J pre W1 → pre ++ [x] <+: allF s → pre.length < s.length + 1 → YieldAt Fence.wide (m - 1) Tryz.prog l (tells x) W1 fun e W' =>
      (e = .returned (.bool true) ∧ J (pre ++ [x]) W' ∧ Kc F v W1 W') ∨ (e = .returned (.bool false) ∧ Jx (pre ++ [x]) W'))
    (hcB : W0.cell? ⟨Bn, 0, none⟩ = some (.string ⟨s.toArray⟩)) (hS0 : Std F v mm W0 J [] W0) :
    CallsIn Fence.wide m Tryz.prog 26 #[.func (.yield l) #[] #[], .pointer (some ⟨Bn, 0, none⟩)] W0 fun e W' => (∃ v, e = .returned v) ∧
      ((∃ xs, xs = allF s ∧ J xs W') ∨ (∃ pre, pre <+: allF s ∧ Jx pre W')) := by
  refine callsIn_of_wp Tryz.func26 rfl trivial ?_ rfl
  simp only [Tryz.ntmps26, List.size_toArray, List.length_cons, List.length_nil, Nat.reduceAdd, Nat.reduceSub, Array.replicate_succ, Array.replicate_zero, List.push_toArray, List.append_toArray, List.nil_append, List.cons_append]
  gi_wp2
  gi_loopw [3, 4, 5] (fun t3 t4 t5 wr => ∃ (pre : List Tl) (n : Nat) (rest : List UInt8) (num docs : Nat), t3 = .string ⟨rest.toArray⟩ ∧ t4 = .int .i64 docs ∧ t5 = .int .i64 num ∧ allF s = pre ++ linF n rest num docs ∧ rest.length < n ∧ pre.length + rest.length ≤ s.length ∧ num + rest.length ≤ s.length + 1 ∧ docs ≤ pre.length ∧ Std F v mm W0 J pre wr) (fun _ _ t5 _ => s.length + 2 - (intOf t5).toNat)
  case atStart => exact ⟨[], s.length + 1, s, 1, 0, rfl, rfl, rfl, rfl, by omega, by simp, by omega, by simp, hS0⟩
  case round =>
    obtain ⟨pre, n, rest, num, docs, rfl, rfl, rfl, he, hn, hpl, hnl, hdl, hSt⟩ := hrel
    have HE := hide2 he
    have HS := hide2 hSt
    clear he hSt
    by_cases hr : rest = []
    · subst hr
      gi_wp2
      refine bodyPost_end (results_none rfl _ _ _) rfl ?_
      exact ⟨⟨_, rfl⟩, .inl ⟨pre, by rw [HE.out, linF_nil]; simp, HS.out.j⟩⟩
    · have hr' : rest.isEmpty = false := by cases rest with | nil => exact absurd rfl hr | cons => rfl
      obtain ⟨a, b, f, hcut⟩ : ∃ a b f, Lib.cut rest [10] = (a, b, f) := ⟨_, _, _, rfl⟩
      have hcl := cut10 rest hr
      rw [hcut] at hcl
      dsimp only at hcl
      have hrl : rest.length ≤ 2 ^ 30 := by omega
      have c28 := cut10_call rest mm _ hrl HS.out.mx.cell a b f hcut
      gi_wp2_with fail
      refine ⟨trivial, ?_⟩
      refine (callsIn_wide.2 c28).mono ?_
      rintro e w1 ⟨rfl, b1⟩
      have HS1 := hide2 (HS.out.below hJa b1)
      clear b1 c28 HS
      have hfew := readF_few a num
      have c29 := read_any a num mm w1 (by omega) HS1.out.mx.cell
      unfold RdE at c29
      obtain ⟨n, rfl⟩ : ∃ n', n = n' + 1 := ⟨n - 1, by omega⟩
      have hlin : linF (n + 1) rest num docs = if (readF a num).2 ≠ 0 then [⟨zTk, docs, num, (readF a num).2⟩] else (readF a num).1.map okT ++ linF n b (num + 1) (docs + docN (readF a num).1) := by
        rw [linF, if_neg hr, hcut]
      obtain ⟨ts, er, hre⟩ : ∃ ts er, readF a num = (ts, er) := ⟨_, _, rfl⟩
      rw [hre] at hlin hfew
      simp only [hre] at c29
      dsimp only at hlin hfew
      clear hcut hre
      gi_wp2_with fail
      refine ⟨trivial, ?_⟩
      refine (callsIn_wide.2 c29).mono ?_
      rintro e w2 ⟨b2, tv, rfl, hrow⟩
      have hnot : ∀ k, tv.ownBlock = some k → ¬ Cs F v w2 k := fun k hk hC => by
        have h1 := (hrow.lt k hk).1
        have h2 : Cs F v w1 k := (cs_iff (b2.cell (p := ⟨v, 0, none⟩) HS1.out.lt) k).1 hC
        have := HS1.out.inv k h2
        omega
      have HS2 := hide2 (HS1.out.below hJa b2)
      have HRW := hide2 hrow
      have HNT := hide2 hnot
      clear b2 c29 hrow hnot
      by_cases h0 : er = 0
      · subst h0
        rw [if_neg (by simp)] at hlin
        have HL := hide2 hlin
        clear hlin
        obtain ⟨av, cv, rfl, hav⟩ := own_sh HRW.out
        obtain ⟨N, hN⟩ : ∃ N, ts.length = N := ⟨_, rfl⟩
        rw [hN] at hfew HRW hav HNT
        have HNN := hide2 hN
        rw [hN]
        clear hN
        gi_wp2_with fail
        gi_loopw [4, 39] (fun t4 t39 wi => ∃ i : Nat, t39 = .int .i64 i ∧ i ≤ N ∧ t4 = .int .i64 (docs + docN (ts.take i) : Nat) ∧ Std F v mm W0 J (pre ++ (ts.take i).map okT) wi ∧ wi.ownsRow w1.heap.size 52 5 (.slice av N cv) N (ts.flatMap Tk.row) ∧ ∀ k, (Value.slice av N cv).ownBlock = some k → ¬ Cs F v wi k) (fun _ t39 _ => N - (intOf t39).toNat)
        case atStart => exact ⟨0, rfl, by omega, by simp [docN], by simpa using HS2.out, HRW.out, HNT.out⟩
        case round =>
          obtain ⟨i, rfl, hi, rfl, hSi, hRi, hNi⟩ := hrel
          have i0 : (0 : Int) ≤ i := by omega
          by_cases hiN : i < N
          · have hi2 : (i : Int) < N := by omega
            obtain ⟨g, rfl⟩ := hav (by omega)
            rcases hti : ts[i]? with _ | t
            · have := List.getElem?_eq_none_iff.1 hti; have := HNN.out; omega
            have htk : ts.take (i + 1) = ts.take i ++ [t] := by
              obtain ⟨h1, h2⟩ := List.getElem?_eq_some_iff.1 hti
              rw [List.take_succ_eq_append_getElem h1, h2]
            have hpx : (pre ++ (ts.take i).map okT) ++ [okT t] <+: allF s := by
              rw [HE.out, HL.out]
              have e1 : (pre ++ (ts.take i).map okT) ++ [okT t] = pre ++ (ts.take (i + 1)).map okT := by rw [htk]; simp
              rw [e1, ← List.append_assoc]
              refine List.IsPrefix.trans ?_ (List.prefix_append _ _)
              exact (List.prefix_append_right_inj pre).2 ((List.take_prefix _ _).map _)
            have hpl2 : (pre ++ (ts.take i).map okT).length < s.length + 1 := by simp; omega
            have hdc := docN_snoc (ts.take i) t
            rw [← htk] at hdc
            have hdn : docN (ts.take i) ≤ N := by
              have := docN_le (ts.take i)
              simp at this; omega
            have c0 := row_cell hRi i t hti 0 _ (by omega) rfl
            have c1 := row_cell hRi i t hti 1 _ (by omega) rfl
            have c2 := row_cell hRi i t hti 2 _ (by omega) rfl
            have c3 := row_cell hRi i t hti 3 _ (by omega) rfl
            have c4 := row_cell hRi i t hti 4 _ (by omega) rfl
            rw [Nat.add_zero] at c0
            have hgl := (hRi.lt g rfl).2
            have HTK := hide2 htk
            have HDC := hide2 hdc
            obtain ⟨D, hD⟩ : ∃ D, docs + docN (ts.take i) = D := ⟨_, rfl⟩
            have hDl : D ≤ 2 ^ 40 := by omega
            have HD := hide2 hD
            rw [hD]
            clear htk hdc hD hti
            obtain ⟨kd, ln, cl, tx, q⟩ := t
            dsimp only at c0 c1 c2 c3 c4 HDC
            obtain ⟨wa, hwa⟩ : ∃ wa, wr.alloc (.cells #[.int .i64 kd, .int .i64 ln, .int .i64 cl, .string ⟨tx.toArray⟩, .bool q] 52) = wa := ⟨_, rfl⟩
            have hba : Below wr.heap.size wr wa := by rw [← hwa]; exact (Below.refl _ wr).alloc (Nat.le_refl _) _
            have hSa := hSi.below hJa hba
            obtain ⟨hRa, hNa⟩ := (Kc.of_below (F := F) hba hSi.lt).row hRi hNi
            obtain ⟨fn, tmps, assign, body, hy, hR⟩ := hY _ (okT ⟨kd, ln, cl, tx, q⟩) wa hSa.j hpx hpl2
            have hy2 : (Instr.yield l #[.agg #[.int .i64 kd, .int .i64 ln, .int .i64 cl, .string ⟨tx.toArray⟩, .bool q], .agg #[.int .i64 0, .int .i64 0, .int .i64 0]]).run Tryz.prog (wr.alloc (.cells #[.int .i64 kd, .int .i64 ln, .int .i64 cl, .string ⟨tx.toArray⟩, .bool q] 52)) = .ok (.round l fn tmps assign body) wa := by rw [hwa]; exact hy
            have HPX := hide2 hpx
            have HSa := hide2 hSa
            have HRa := hide2 hRa
            have HNa := hide2 hNa
            have HI := hide2 hi
            clear hy hpx hSa hRa hNa hSi hRi hNi hba hwa hY hi HRW HNT HS2 HS1 hav
            by_cases hk : kd = 1
            · subst hk
              gi_wp2_with fail
              refine hR.mono ?_
              rintro e W3 (⟨rfl, hJ3, hk3⟩ | ⟨rfl, hJx3⟩)
              · gi_wp2
                obtain ⟨hR3, hN3⟩ := hk3.row HRa.out HNa.out
                have hS3 := HSa.out.next hJ3 hk3
                go_roundw
                case rel => exact ⟨i + 1, by go_num, by omega, by have := HD.out; rw [HDC.out]; simp; omega, by rw [HTK.out]; simpa using hS3, hR3, hN3⟩
                case measure => simp [intOf]; omega
              · gi_wp2
                refine bodyPost_ret (results_none rfl _ _ _) rfl ?_
                exact ⟨⟨_, rfl⟩, .inr ⟨_, HPX.out, hJx3⟩⟩
            · have hk' : (kd == 1) = false := by simpa using hk
              gi_wp2_with fail
              refine hR.mono ?_
              rintro e W3 (⟨rfl, hJ3, hk3⟩ | ⟨rfl, hJx3⟩)
              · gi_wp2
                obtain ⟨hR3, hN3⟩ := hk3.row HRa.out HNa.out
                have hS3 := HSa.out.next hJ3 hk3
                go_roundw
                case rel => exact ⟨i + 1, by go_num, by omega, by have := HD.out; rw [HDC.out]; simp [hk]; omega, by rw [HTK.out]; simpa using hS3, hR3, hN3⟩
                case measure => simp [intOf]; omega
              · gi_wp2
                refine bodyPost_ret (results_none rfl _ _ _) rfl ?_
                exact ⟨⟨_, rfl⟩, .inr ⟨_, HPX.out, hJx3⟩⟩
          · have hi2 : ¬ (i : Int) < N := by omega
            obtain rfl : i = N := by omega
            have htk : ts.take i = ts := List.take_of_length_le (by rw [HNN.out]; omega)
            rw [htk] at hSi ⊢
            have hdn := docN_le ts
            rw [HNN.out] at hdn
            have hd1 : docs + docN ts ≤ 2 ^ 40 := by omega
            obtain ⟨D, hD⟩ : ∃ D, docs + docN ts = D := ⟨_, rfl⟩
            rw [hD] at HL ⊢
            have HSi := hide2 hSi
            clear htk hSi hRi hNi
            gi_wp2
            go_roundw
            case rel => exact ⟨pre ++ ts.map okT, n, b, num + 1, D, rfl, rfl, by go_num, by rw [HE.out, HL.out, List.append_assoc], by omega, by simp [HNN.out]; omega, by omega, by simp [HNN.out]; omega, HSi.out⟩
            case measure => simp [intOf]; omega
      · rw [if_pos h0] at hlin
        have HL := hide2 hlin
        clear hlin
        have h0' : (er != 0) = true := by simpa using h0
        have hpx : pre ++ [⟨zTk, docs, num, er⟩] <+: allF s := by rw [HE.out, HL.out]; exact List.prefix_refl _
        obtain ⟨fn, tmps, assign, body, hy, hR⟩ := hY pre ⟨zTk, docs, num, er⟩ w2 HS2.out.j hpx (by omega)
        have hy' : (Instr.yield l #[.agg #[.int .i64 0, .int .i64 0, .int .i64 0, .string ⟨#[]⟩, .bool false], .agg #[.int .i64 docs, .int .i64 num, .int .i64 er]]).run Tryz.prog w2 = .ok (.round l fn tmps assign body) w2 := hy
        have HPX := hide2 hpx
        clear hy hpx
        gi_wp2_with fail
        refine hR.mono ?_
        rintro e W3 (⟨rfl, hJ3, hk3⟩ | ⟨rfl, hJx3⟩)
        · gi_wp2
          refine bodyPost_ret (results_none rfl _ _ _) rfl ?_
          exact ⟨⟨_, rfl⟩, .inl ⟨_, by rw [HE.out, HL.out], hJ3⟩⟩
        · gi_wp2
          refine bodyPost_ret (results_none rfl _ _ _) rfl ?_
          exact ⟨⟨_, rfl⟩, .inr ⟨_, HPX.out, hJx3⟩⟩
/-- The sequence's word. -/
theorem each_seq (m : Nat) (hm : 1 ≤ m) (Bn : Nat) (s : List UInt8) (hs : s.length ≤ 65536) (mm : Int) (F : List Nat) (v : Nat) (w : World) (hBn : Bn < w.heap.size)
    (hcB : w.cell? ⟨Bn, 0, none⟩ = some (.string ⟨s.toArray⟩)) (hMx : Mx F v mm w) (hv : v < w.heap.size) (hinv : ∀ k, Cs F v w k → k < w.heap.size) :
    SeqP m Tryz.prog 26 #[.pointer (some ⟨Bn, 0, none⟩)] tells (fun _ _ => True) (Kc F v) (fun xs => xs = allF s) (fun pre => pre <+: allF s) (s.length + 1) w := by
  intro l J Jx W hW hJ hY h0
  have k : Kc F v w W := Kc.of_below hW hv
  exact each2_in m hm l Bn s hs mm F v J Jx W hJ (fun pre x W1 h1 h3 h4 => hY pre x W1 h1 trivial h3 h4)
    ((hW.cell (p := ⟨Bn, 0, none⟩) hBn).trans hcB) ⟨h0, hMx.next k, Nat.lt_of_lt_of_le hv hW.size, k.inv hinv, Nat.le_refl _⟩
/-- Of a text that is too long. -/
def longT : Tl := ⟨zTk, 0, 0, 3⟩
set_option maxRecDepth 100000 in
set_option maxHeartbeats 2000000 in
theorem each1_in (m : Nat) (hm : 1 ≤ m) (l : Nat) (F : List Nat) (v : Nat) (J Jx : List Tl → World → Prop) (W0 : World)
    (hY : ∀ pre x W1, J pre W1 → pre ++ [x] <+: [longT] → pre.length < 2 → YieldAt Fence.wide (m - 1) Tryz.prog l (tells x) W1 fun e W' =>
      (e = .returned (.bool true) ∧ J (pre ++ [x]) W' ∧ Kc F v W1 W') ∨ (e = .returned (.bool false) ∧ Jx (pre ++ [x]) W'))
    (hJ0 : J [] W0) :
    CallsIn Fence.wide m Tryz.prog 25 #[.func (.yield l) #[] #[]] W0 fun e W' => (∃ v, e = .returned v) ∧
      ((∃ xs, xs = [longT] ∧ J xs W') ∨ (∃ pre, pre <+: [longT] ∧ Jx pre W')) := by
  refine callsIn_of_wp Tryz.func25 rfl trivial ?_ rfl
  simp only [Tryz.ntmps25, List.size_toArray, List.length_cons, List.length_nil, Nat.reduceAdd, Nat.reduceSub, Array.replicate_succ, Array.replicate_zero, List.push_toArray, List.append_toArray, List.nil_append, List.cons_append]
  obtain ⟨fn, tmps, assign, body, hy, hR⟩ := hY [] longT W0 hJ0 (List.prefix_refl _) (by simp)
  have hy' : (Instr.yield l #[.agg #[.int .i64 0, .int .i64 0, .int .i64 0, .string ⟨#[]⟩, .bool false], .agg #[.int .i64 0, .int .i64 0, .int .i64 3]]).run Tryz.prog W0 = .ok (.round l fn tmps assign body) W0 := hy
  clear hy
  gi_wp2_with fail
  refine hR.mono ?_
  rintro e W3 (⟨rfl, hJ3, hk3⟩ | ⟨rfl, hJx3⟩)
  · gi_wp2
    refine bodyPost_end (results_none rfl _ _ _) rfl ?_
    exact ⟨⟨_, rfl⟩, .inl ⟨_, rfl, hJ3⟩⟩
  · gi_wp2
    refine bodyPost_end (results_none rfl _ _ _) rfl ?_
    exact ⟨⟨_, rfl⟩, .inr ⟨_, List.prefix_refl _, hJx3⟩⟩
theorem each_long (m : Nat) (hm : 1 ≤ m) (F : List Nat) (v : Nat) (w : World) :
    SeqP m Tryz.prog 25 #[] tells (fun _ _ => True) (Kc F v) (fun xs => xs = [longT]) (fun pre => pre <+: [longT]) 2 w := by
  intro l J Jx W hW hJ hY h0
  exact each1_in m hm l F v J Jx W (fun pre x W1 h1 h3 h4 => hY pre x W1 h1 trivial h3 h4) h0
end Go.Proofs.YtmmnpnhffgpchaaGreatDoor.Ln
