/-
  The best of several patterns: plain facts, no program; a list of texts appended.
-/
import Derived.Test.YtplbdnndpgfljaaPq
import Derived.Laws.AppendOwnNone
namespace Go.Proofs.Ytplbdnndpgfljaa
open Go.RowKit
set_option linter.unusedVariables false
set_option linter.unusedSimpArgs false
def at_ (ds : List (List UInt8)) (j : Nat) : Int × List UInt8 := srtF (ds.getD j [])
/-- what holds of the best one behind k of them -/
def Bst (h : List UInt8) (ds : List (List UInt8)) (k : Nat) (st : Int × (Int × List UInt8)) : Prop :=
  (st = (0, (3, [])) ∧ ∀ j, j < k → takF (at_ ds j) h = false) ∨
  ∃ i : Nat, i < k ∧ st.1 = i ∧ st.2 = at_ ds i ∧ takF st.2 h = true ∧ st.2.1 ≠ 3 ∧ ∀ j, j < k → takF (at_ ds j) h = true → 0 ≤ cmpF (at_ ds j) st.2 ∧ (j < i → 0 < cmpF (at_ ds j) st.2)
theorem tak_some {p : Int × List UInt8} {h : List UInt8} (h1 : takF p h = true) : p.1 ≠ 3 := by
  rw [tak_iff] at h1
  rcases h1 with ⟨h, _⟩ | ⟨h, _⟩ | h <;> omega
theorem bst_step {h : List UInt8} {ds : List (List UInt8)} {k : Nat} {st : Int × (Int × List UInt8)} (hB : Bst h ds k st) : Bst h ds (k + 1) (if takF (at_ ds k) h && decide (cmpF (at_ ds k) st.2 < 0) then ((k : Int), at_ ds k) else st) := by
  cases ht : takF (at_ ds k) h with
  | false =>
    simp only [Bool.false_and, Bool.false_eq_true, if_false]
    rcases hB with ⟨h1, h2⟩ | ⟨i, a1, a2, a3, a4, a5, a6⟩
    · refine .inl ⟨h1, fun j hj => ?_⟩
      rcases Nat.lt_succ_iff_lt_or_eq.1 hj with h | rfl
      · exact h2 j h
      · exact ht
    · refine .inr ⟨i, by omega, a2, a3, a4, a5, fun j hj hjt => ?_⟩
      rcases Nat.lt_succ_iff_lt_or_eq.1 hj with h | rfl
      · exact a6 j h hjt
      · rw [ht] at hjt; cases hjt
  | true =>
    have hk3 := tak_some ht
    by_cases hc : cmpF (at_ ds k) st.2 < 0
    · rw [if_pos (by simp [hc])]
      refine .inr ⟨k, by omega, rfl, rfl, ht, hk3, fun j hj hjt => ?_⟩
      rcases Nat.lt_succ_iff_lt_or_eq.1 hj with hlt | rfl
      · have : 0 < cmpF (at_ ds j) (at_ ds k) := by
          rcases hB with ⟨h1, h2⟩ | ⟨i, a1, a2, a3, a4, a5, a6⟩
          · rw [h2 j hlt] at hjt; cases hjt
          · have b1 := (a6 j hlt hjt).1
            apply Classical.byContradiction
            intro hn
            have c1 : cmpF st.2 (at_ ds j) ≤ 0 := by rw [cmp_neg]; omega
            have c2 := cmp_trans c1 (by omega : cmpF (at_ ds j) (at_ ds k) ≤ 0)
            rw [cmp_neg] at c2
            omega
        exact ⟨by show 0 ≤ cmpF (at_ ds j) (at_ ds k); omega, fun _ => this⟩
      · exact ⟨by show 0 ≤ cmpF (at_ ds j) (at_ ds j); rw [cmp_refl]; omega, fun h => absurd h (Nat.lt_irrefl _)⟩
    · rw [if_neg (by simp [hc])]
      rcases hB with ⟨h1, h2⟩ | ⟨i, a1, a2, a3, a4, a5, a6⟩
      · exfalso
        rw [h1] at hc
        have := none_behind (pat_of (ds.getD k [])) hk3 (q := (3, [])) rfl
        exact hc (by rw [show at_ ds k = srtF (ds.getD k []) from rfl]; show cmpF _ (3, []) < 0; rw [this]; decide)
      · refine .inr ⟨i, by omega, a2, a3, a4, a5, fun j hj hjt => ?_⟩
        rcases Nat.lt_succ_iff_lt_or_eq.1 hj with h | rfl
        · exact a6 j h hjt
        · exact ⟨by omega, fun h => by omega⟩
theorem bst_all (h : List UInt8) (ds : List (List UInt8)) : ∀ k, Bst h ds k (bstS h ds k)
  | 0 => .inl ⟨rfl, fun j hj => by omega⟩
  | k + 1 => by
    have := bst_step (bst_all h ds k)
    rw [bstS]; exact this
/-- what the call answers: none, or a number -/
theorem best_spec (ds : List (List UInt8)) (s : List UInt8) :
    ((if hostB s then (bstS (fldF s) ds ds.length).1 else 0) = 0 ∧ (hostB s && !((bstS (fldF s) ds ds.length).2.1 == 3)) = false ∧ ∀ d ∈ ds, hostM d s = false) ∨
    ∃ (i : Nat) (di : List UInt8), ds[i]? = some di ∧ (if hostB s then (bstS (fldF s) ds ds.length).1 else 0) = i ∧ (hostB s && !((bstS (fldF s) ds ds.length).2.1 == 3)) = true ∧ hostM di s = true ∧
      ∀ (j : Nat) (d : List UInt8), ds[j]? = some d → hostM d s = true → 0 ≤ ordM d di ∧ (j < i → 0 < ordM d di) := by
  cases hh : hostB s with
  | false =>
    refine .inl ⟨by simp, by simp, fun d hd => by simp [hostM, hh]⟩
  | true =>
    simp only [if_true, Bool.true_and]
    rcases bst_all (fldF s) ds ds.length with ⟨h1, h2⟩ | ⟨i, a1, a2, a3, a4, a5, a6⟩
    · refine .inl ⟨by rw [h1], by rw [h1]; rfl, fun d hd => ?_⟩
      obtain ⟨j, hj⟩ := List.getElem?_of_mem hd
      have hlt := (List.getElem?_eq_some_iff.1 hj).1
      have := h2 j hlt
      rw [at_, List.getD, hj] at this
      simp [hostM, hh]; exact this
    · have hdi : ds[i]? = some ds[i] := List.getElem?_eq_getElem a1
      have e : at_ ds i = srtF ds[i] := by simp [at_, a1]
      rw [a3, e] at a4 a5 a6
      refine .inr ⟨i, ds[i], hdi, a2, by rw [a3, e]; simp [a5], by simp [hostM, hh, a4], fun j d hj hm => ?_⟩
      have hlt := (List.getElem?_eq_some_iff.1 hj).1
      have ej : at_ ds j = srtF d := by rw [at_, List.getD, hj]; rfl
      have := a6 j hlt (by rw [ej]; simp [hostM, hh] at hm; exact hm)
      rw [ej] at this
      exact this
theorem Try.info9 : (Try.prog.info? 9).map (fun i => (i.zero, i.size, i.bytes)) = some (some (.string ⟨#[]⟩), 1, 16) := by kernel_rfl
def strV (ds : List (List UInt8)) : List Value := ds.map fun d => .string ⟨d.toArray⟩
/-- append of a source that is nil, or there -/
theorem wpList_append_src {P : Program} (w : World) {ops : Array Oper} {rest : List Oper} {o : Oper} {a : Act} {Q : Exit → Act → World → Prop} (hgd : o.guard = none) (s x : Operand) (t : TypeId)
    (ho : o.op = .call { callee := .builtin .append, args := #[s, x], argTypes := #[t, t] })
    (base : Nat) (e : TypeId) (i : TypeInfo) (z : Value) (size bytes : Nat) (ht : P.underlying t = some (.slice e)) (hi : P.info? e = some i) (hz : i.zero = some z)
    (hsize : i.size = size) (hby : i.bytes = bytes) (hzs : z.cells.size = size) (hsz : 0 < size)
    (v : Value) (n : Nat) (xs : List Value) (hs : a.eval s = v) (hown : w.ownsRow base e size v n xs)
    (ao : Option Addr) (m c : Nat) (news : List Value) (hx : a.eval x = .slice ao m c)
    (hsrc : (ao = none ∧ m = 0 ∧ c = 0 ∧ news = []) ∨ ∃ ad, ao = some ad ∧ news.length = m * size ∧ ∀ j u, news[j]? = some u → w.cell? (ad.add j) = some u) (h1 : ∀ u ∈ news, u.oneCell' = true)
    (h63 : n + m ≤ maxLen) (hbytes : (n + m) * bytes ≤ 140737488355328) (hbase : base ≤ w.heap.size)
    (h : ∀ v' w', w'.ownsRow base e size v' (n + m) (xs ++ news) → w.grownBy w' v.ownBlock → wpList P ops Q rest (a.put o.dst v') w') : wpList P ops Q (o :: rest) a w := by
  rcases hsrc with ⟨rfl, rfl, rfl, rfl⟩ | ⟨ad, rfl, hl, hnews⟩
  · refine wpList_append_own_none hgd s x t ho base e i size ht hi v n xs hs hown hx (h v w ?_ ?_)
    · rw [List.append_nil]; exact hown
    · exact ⟨rfl, rfl, rfl, Nat.le_refl _, fun _ _ _ => rfl⟩
  · exact wpList_append_own w hgd s x t ho base e i z size bytes ht hi hz hsize hby hzs hsz v n xs hs hown ad m c news hx hl hnews h1 h63 hbytes hbase (fun v' w' h2 h3 _ => h v' w' h2 h3)
theorem own_empty (w : World) (e : TypeId) (size : Nat) : (w.alloc (.cells #[] e)).ownsRow w.heap.size e size (.slice (some ⟨w.heap.size, 0, none⟩) 0 0) 0 [] :=
  ⟨by simp, .inr ⟨w.heap.size, 0, #[], rfl, Nat.le_refl _, heap_alloc_new w _, Nat.le_refl _, by decide, by simp, by simp⟩⟩
theorem own_strs {w : World} {base n : Nat} {v : Value} {ds : List (List UInt8)} (hn : ds.length = n) (h : w.ownsRow base 9 1 v n (strV ds)) : ∃ ao cp, v = .slice ao n cp ∧ Strs w ao ds := by
  rcases h.2 with ⟨rfl, h0⟩ | ⟨g, cp, cur, rfl, _⟩
  · subst h0
    exact ⟨none, 0, rfl, .inl ⟨rfl, List.length_eq_zero_iff.1 hn⟩⟩
  · refine ⟨_, cp, rfl, .inr ⟨_, rfl, fun j d hd => h.cells rfl j _ ?_⟩⟩
    simp [strV, hd]
theorem strV_one (ds : List (List UInt8)) : ∀ u ∈ strV ds, u.oneCell' = true := by
  intro u hu
  obtain ⟨z, _, rfl⟩ := List.mem_map.1 hu
  rfl
theorem Strs.src {w : World} {a : Option Addr} {n c : Nat} {ds : List (List UInt8)} (h : Strs w a ds) (hn : ds.length = n) (hb : a = none → c = 0) : (a = none ∧ n = 0 ∧ c = 0 ∧ strV ds = []) ∨ ∃ ad, a = some ad ∧ (strV ds).length = n * 1 ∧ ∀ j u, (strV ds)[j]? = some u → w.cell? (ad.add j) = some u := by
  rcases h with ⟨rfl, rfl⟩ | ⟨x, rfl, hc⟩
  · exact .inl ⟨rfl, hn.symm, hb rfl, rfl⟩
  · refine .inr ⟨x, rfl, by simp [strV, hn], fun j u hu => ?_⟩
    simp only [strV, List.getElem?_map, Option.map_eq_some_iff] at hu
    obtain ⟨d, hd, rfl⟩ := hu
    exact hc j d hd
end Go.Proofs.Ytplbdnndpgfljaa
