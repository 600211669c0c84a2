/-
  Two texts, one behind the other: what is told of them together.
-/
import Derived.Test.YtjmgngocpokpgaaDoorScx
namespace Go.Proofs.YtjmgngocpokpgaaDoor
open Go.RowKit
set_option linter.unusedVariables false
set_option linter.unusedSimpArgs false
/-- The same token on another line. -/
def Tk.on (k : Int) (t : Tk) : Tk := { t with line := k }
def Tk.by (k : Int) (t : Tk) : Tk := { t with line := t.line + k }
theorem qtdF_on (a b : Int) (l : List UInt8) (p : Nat) (ts : List Tk) : qtdF b l p (ts.map (Tk.on b)) = ((qtdF a l p ts).1.map (Tk.on b), (qtdF a l p ts).2) := by
  unfold qtdF
  rcases l.drop p with _ | ⟨c, r⟩
  · rfl
  · dsimp only
    rcases unqF (c :: r) with _ | ⟨t, k⟩
    · rfl
    · dsimp only
      split
      · simp [Tk.on]
      · rfl
theorem scaF_on (a b : Int) (l : List UInt8) (p : Nat) (ts : List Tk) : scaF b l p (ts.map (Tk.on b)) = ((scaF a l p ts).1.map (Tk.on b), (scaF a l p ts).2) := by
  unfold scaF
  rcases l.drop p with _ | ⟨c, r⟩
  · rfl
  · dsimp only
    split
    · exact qtdF_on a b l p ts
    · rcases plnF (c :: r) with _ | ⟨d, t⟩
      · rfl
      · simp [Tk.on]
theorem conF_on (a b : Int) (l : List UInt8) : ∀ (n p : Nat) (ts : List Tk), conF b l n p (ts.map (Tk.on b)) = ((conF a l n p ts).1.map (Tk.on b), (conF a l n p ts).2)
  | 0, p, ts => rfl
  | n + 1, p, ts => by
    rw [conF, conF]
    rcases l.drop p with _ | ⟨c, r⟩
    · rfl
    · dsimp only
      split
      · rfl
      · split
        · have := conF_on a b l n (skpF l (p + 1)) (ts ++ [⟨2, a, p, [], quoF c.toNat⟩])
          rw [← this]
          congr 1
          simp [Tk.on]
        · rcases keyF (c :: r) with _ | ⟨t, k⟩
          · exact scaF_on a b l p ts
          · dsimp only
            have e : (ts ++ [(⟨3, a, p, t, quoF c.toNat⟩ : Tk)]).map (Tk.on b) = ts.map (Tk.on b) ++ [⟨3, b, p, t, quoF c.toNat⟩] := by simp [Tk.on]
            split
            · rw [← e]
            · rw [← e]
              exact scaF_on a b l _ _
theorem readF_on (a b : Int) (l : List UInt8) : readF l b = ((readF l a).1.map (Tk.on b), (readF l a).2) := by
  unfold readF
  split
  · rfl
  · split
    · simp [Tk.on]
    · exact conF_on a b l _ _ []
/-- All tokens of a line bear its number. -/
theorem readF_line (l : List UInt8) (a : Int) (t : Tk) (h : t ∈ (readF l a).1) : t.line = a := by
  rw [readF_on a a l] at h
  obtain ⟨u, _, rfl⟩ := List.mem_map.1 h
  rfl
theorem readF_by (l : List UInt8) (a k : Int) : readF l (a + k) = ((readF l a).1.map (Tk.by k), (readF l a).2) := by
  rw [readF_on a (a + k) l]
  congr 1
  refine List.map_congr_left (fun t ht => ?_)
  have := readF_line l a t ht
  simp [Tk.on, Tk.by, this]
theorem docN_by (k : Int) (ts : List Tk) : docN (ts.map (Tk.by k)) = docN ts := by
  unfold docN
  rw [List.filter_map, List.length_map]
  rfl
/-- What is told, so many lines and documents later. -/
def Tl.by (k d : Int) (x : Tl) : Tl := if x.e = 0 then okT (x.tk.by k) else ⟨zTk, x.d + d, x.ln + k, x.e⟩
theorem okT_by (k d : Int) (t : Tk) : (okT t).by k d = okT (t.by k) := by simp [Tl.by, okT]
theorem linF_by (k dd : Nat) : ∀ (n : Nat) (r : List UInt8) (num docs : Nat), linF n r (num + k) (docs + dd) = (linF n r num docs).map (Tl.by k dd)
  | 0, r, num, docs => rfl
  | n + 1, r, num, docs => by
    rw [linF, linF]
    by_cases hr : r = []
    · rw [if_pos hr, if_pos hr]; rfl
    · rw [if_neg hr, if_neg hr]
      have hrd := readF_by (Lib.cut r [10]).1 num k
      have hc : ((num + k : Nat) : Int) = (num : Int) + k := by omega
      rw [hc, hrd]
      dsimp only
      by_cases he : (readF (Lib.cut r [10]).1 num).2 ≠ 0
      · rw [if_pos he, if_pos he]
        simp [Tl.by, he]
      · rw [if_neg he, if_neg he, docN_by]
        have := linF_by k dd n (Lib.cut r [10]).2.1 (num + 1) (docs + docN (readF (Lib.cut r [10]).1 num).1)
        have e1 : num + k + 1 = num + 1 + k := by omega
        have e2 : docs + dd + docN (readF (Lib.cut r [10]).1 num).1 = docs + docN (readF (Lib.cut r [10]).1 num).1 + dd := by omega
        rw [e1, e2, this]
        simp [okT_by, Function.comp_def]
theorem linF_fuel : ∀ (n m : Nat) (r : List UInt8) (num docs : Nat), r.length < n → r.length < m → linF n r num docs = linF m r num docs
  | 0, m, r, num, docs, h, _ => by omega
  | n + 1, 0, r, num, docs, _, h => by omega
  | n + 1, m + 1, r, num, docs, h1, h2 => by
    rw [linF, linF]
    by_cases hr : r = []
    · rw [if_pos hr, if_pos hr]
    · rw [if_neg hr, if_neg hr]
      have := cut10 r hr
      rw [linF_fuel n m (Lib.cut r [10]).2.1 _ _ (by omega) (by omega)]
/-- How a text with a line end is cut. -/
theorem index10 : ∀ (l : List UInt8), Lib.index l [10] = -1 ∧ ¬ (10 : UInt8) ∈ l ∨ ∃ i : Nat, Lib.index l [10] = i ∧ i < l.length ∧ l = l.take i ++ 10 :: l.drop (i + 1) ∧ ¬ (10 : UInt8) ∈ l.take i
  | [] => .inl ⟨rfl, by simp⟩
  | b :: l => by
    unfold Lib.index
    by_cases h : b = 10
    · subst h
      refine .inr ⟨0, ?_, by simp, by simp, by simp⟩
      simp [List.isPrefixOf]
    · have hp : ([10] : List UInt8).isPrefixOf (b :: l) = false := by simp [List.isPrefixOf]; exact fun e => h e.symm
      rw [hp]
      rcases index10 l with ⟨h1, h2⟩ | ⟨i, h1, h2, h3, h4⟩
      · refine .inl ⟨by simp [h1], ?_⟩
        simp [h2]; exact fun e => h e.symm
      · refine .inr ⟨i + 1, ?_, by simp; omega, ?_, ?_⟩
        · have : ((i : Int) == -1) = false := by simp
          simp [h1, this]
        · simpa using h3
        · simp [h4]; exact fun e => h e.symm
theorem cut_no {l : List UInt8} (h : ¬ (10 : UInt8) ∈ l) : Lib.cut l [10] = (l, [], false) := by
  rcases index10 l with ⟨h1, _⟩ | ⟨i, h1, h2, h3, _⟩
  · unfold Lib.cut; rw [h1]; rfl
  · exact absurd (by rw [h3]; simp) h
theorem cut_at {a b : List UInt8} (h : ¬ (10 : UInt8) ∈ a) : Lib.cut (a ++ 10 :: b) [10] = (a, b, true) := by
  have hi : Lib.index (a ++ 10 :: b) [10] = a.length := by
    refine Lib.index_first (by simp) ?_ (fun j hj => ?_)
    · simp [Lib.occAt, List.isPrefixOf]
    · unfold Lib.occAt
      have hx : ((10 : UInt8) == a[j]) = false := by
        rw [beq_eq_false_iff_ne]
        exact fun e => h (e ▸ List.getElem_mem hj)
      rw [List.drop_append_of_le_length (Nat.le_of_lt hj), List.drop_eq_getElem_cons hj]
      show (((10 : UInt8) == a[j]) && _) = false
      rw [hx]
      rfl
  unfold Lib.cut
  rw [hi]
  simp
def endsOf (l : List UInt8) : Nat := l.count 10
/-- A fault ends what is told. -/
abbrev Bad (xs : List Tl) : Prop := ∃ x ∈ xs, x.e ≠ 0
theorem okT_fine (t : Tk) : Fine (okT t) := ⟨rfl, rfl, rfl⟩
def docsOf (xs : List Tl) : Nat := docN (xs.map (·.tk))
theorem docN_app (a b : List Tk) : docN (a ++ b) = docN a + docN b := by unfold docN; simp
theorem docsOf_ok (ts : List Tk) (xs : List Tl) : docsOf (ts.map okT ++ xs) = docN ts + docsOf xs := by
  unfold docsOf
  rw [List.map_append, docN_app]
  congr 2
  simp [Function.comp_def, okT]
theorem readF_nil (num : Int) : readF [] num = ([], 0) := by
  unfold readF
  have h1 : strF [] = 0 := rfl
  have h2 : docF [] = false := rfl
  rw [h1, h2]
  rfl
/-- Two texts, a line end between them. -/
theorem linF_join (two : List UInt8) : ∀ (n : Nat) (one : List UInt8) (num docs : Nat), one.length < n →
    linF (n + two.length + 1) (one ++ 10 :: two) num docs = if Bad (linF n one num docs) then linF n one num docs else linF n one num docs ++ linF (two.length + 1) two (num + endsOf one + 1) (docs + docsOf (linF n one num docs))
  | 0, one, num, docs, h => by omega
  | n + 1, one, num, docs, h => by
    have hne : one ++ 10 :: two ≠ [] := by simp
    have hf : n + 1 + two.length + 1 = (n + two.length + 1) + 1 := by omega
    rw [hf, linF, if_neg hne]
    by_cases ho : one = []
    · subst ho
      have hc : Lib.cut ([] ++ 10 :: two) [10] = ([], two, true) := cut_at (by simp)
      rw [hc, linF_nil]
      dsimp only
      rw [readF_nil]
      dsimp only
      rw [if_neg (by simp), if_neg (by rintro ⟨x, hx, _⟩; cases hx)]
      simp only [List.map_nil, List.nil_append]
      have h1 : docN [] = 0 := rfl
      have h2 : docsOf [] = 0 := rfl
      have h3 : endsOf [] = 0 := rfl
      rw [h1, h2, h3]
      exact linF_fuel _ _ _ _ _ (by omega) (by omega)
    · rcases index10 one with ⟨_, h2⟩ | ⟨i, _, h2, h3, h4⟩
      · have hc : Lib.cut (one ++ 10 :: two) [10] = (one, two, true) := cut_at h2
        have hc1 := cut_no h2
        have hl : linF (n + 1) one num docs = if (readF one num).2 ≠ 0 then [⟨zTk, docs, num, (readF one num).2⟩] else (readF one num).1.map okT := by
          rw [linF, if_neg ho, hc1]
          dsimp only
          rw [linF_nil, List.append_nil]
        rw [hc, hl]
        dsimp only
        by_cases he : (readF one num).2 ≠ 0
        · rw [if_pos he, if_pos he, if_pos ⟨_, List.mem_singleton_self _, he⟩]
        · rw [if_neg he, if_neg he, if_neg (by rintro ⟨x, hx, hx2⟩; obtain ⟨u, _, rfl⟩ := List.mem_map.1 hx; exact hx2 rfl)]
          congr 1
          have h5 := docsOf_ok (readF one num).1 []
          rw [List.append_nil] at h5
          have h6 : docsOf [] = 0 := rfl
          have h7 : endsOf one = 0 := List.count_eq_zero.2 h2
          rw [h5, h6, h7]
          exact linF_fuel _ _ _ _ _ (by omega) (by omega)
      · generalize ha : one.take i = a at h3 h4
        generalize hb : one.drop (i + 1) = b at h3
        have hlen : b.length < n := by
          have := congrArg List.length h3
          simp only [List.length_append, List.length_cons] at this
          omega
        have hE : endsOf one = endsOf b + 1 := by
          unfold endsOf
          rw [h3, List.count_append, List.count_eq_zero.2 h4]
          simp
        rw [hE]
        clear hE ha hb h2
        subst h3
        have hc : Lib.cut (a ++ 10 :: b ++ 10 :: two) [10] = (a, b ++ 10 :: two, true) := by
          rw [List.append_assoc]
          exact cut_at h4
        have hc1 : Lib.cut (a ++ 10 :: b) [10] = (a, b, true) := cut_at h4
        have ih := linF_join two n b (num + 1) (docs + docN (readF a num).1) hlen
        rw [hc]
        conv => rhs; rw [linF, if_neg ho, hc1]
        dsimp only
        by_cases he : (readF a num).2 ≠ 0
        · rw [if_pos he, if_pos he, if_pos ⟨_, List.mem_singleton_self _, he⟩]
        · rw [if_neg he, if_neg he, ih, docsOf_ok]
          generalize hL : linF n b (num + 1) (docs + docN (readF a num).1) = L
          have hB : Bad ((readF a num).1.map okT ++ L) ↔ Bad L := by
            constructor
            · rintro ⟨x, hx, hx2⟩
              rcases List.mem_append.1 hx with hx | hx
              · obtain ⟨u, _, rfl⟩ := List.mem_map.1 hx
                exact absurd rfl hx2
              · exact ⟨x, hx, hx2⟩
            · rintro ⟨x, hx, hx2⟩
              exact ⟨x, List.mem_append_right _ hx, hx2⟩
          have e1 : num + 1 + endsOf b + 1 = num + (endsOf b + 1) + 1 := by omega
          have e2 : docs + docN (readF a num).1 + docsOf L = docs + (docN (readF a num).1 + docsOf L) := by omega
          by_cases hbad : Bad L
          · rw [if_pos hbad, if_pos (hB.2 hbad)]
          · rw [if_neg hbad, if_neg (fun h => hbad (hB.1 h)), e1, e2, List.append_assoc]
/-- All that is told of two texts. -/
theorem allF_join (one two : List UInt8) : allF (one ++ 10 :: two) = if Bad (allF one) then allF one else allF one ++ (allF two).map (Tl.by ((endsOf one + 1 : Nat) : Int) (docsOf (allF one))) := by
  have h := linF_join two (one.length + 1) one 1 0 (by omega)
  unfold allF
  have e : (one ++ 10 :: two).length + 1 = one.length + 1 + two.length + 1 := by simp; omega
  rw [e, h]
  generalize linF (one.length + 1) one 1 0 = L
  by_cases hb : Bad L
  · rw [if_pos hb, if_pos hb]
  · rw [if_neg hb, if_neg hb]
    congr 1
    have := linF_by (endsOf one + 1) (docsOf L) (two.length + 1) two 1 0
    rw [← this]
    congr 1
theorem by_e (k d : Int) (x : Tl) : (x.by k d).e = x.e := by
  unfold Tl.by
  split
  · rename_i h; rw [h]; rfl
  · rfl
theorem find_by (k d : Int) (xs : List Tl) : (xs.map (Tl.by k d)).find? (fun x => decide (x.e ≠ 0)) = (xs.find? (fun x => decide (x.e ≠ 0))).map (Tl.by k d) := by
  rw [List.find?_map]
  congr 2
  funext x
  simp [by_e]
theorem bad_find {xs : List Tl} : (xs.find? (fun x => decide (x.e ≠ 0)) = none ∧ ¬ Bad xs) ∨ ∃ x, xs.find? (fun x => decide (x.e ≠ 0)) = some x ∧ x ∈ xs ∧ x.e ≠ 0 ∧ Bad xs := by
  rcases h : xs.find? (fun x => decide (x.e ≠ 0)) with _ | x
  · refine .inl ⟨h, ?_⟩
    rintro ⟨y, hy, he⟩
    have := List.find?_eq_none.1 h y hy
    simp [he] at this
  · have h1 := List.mem_of_find?_eq_some h
    have h2 := List.find?_some h
    have h3 : x.e ≠ 0 := by simpa using h2
    exact .inr ⟨x, h, h1, h3, x, h1, h3⟩
/-- What is told stays small. -/
theorem linF_fit : ∀ (n : Nat) (r : List UInt8) (num docs : Nat) (x : Tl), x ∈ linF n r num docs → (0 ≤ x.d ∧ x.d ≤ docs + r.length) ∧ (0 ≤ x.ln ∧ x.ln ≤ num + r.length) ∧ 0 ≤ x.tk.line ∧ x.tk.line ≤ num + r.length
  | 0, r, num, docs, x, h => by cases h
  | n + 1, r, num, docs, x, h => by
    rw [linF] at h
    split at h
    · cases h
    · rename_i hr
      have hc := cut10 r hr
      split at h
      · obtain rfl := List.mem_singleton.1 h
        refine ⟨⟨?_, ?_⟩, ⟨?_, ?_⟩, ?_, ?_⟩ <;> simp only [zTk] <;> omega
      · rcases List.mem_append.1 h with h | h
        · obtain ⟨t, ht, rfl⟩ := List.mem_map.1 h
          have := readF_line _ _ t ht
          refine ⟨⟨?_, ?_⟩, ⟨?_, ?_⟩, ?_, ?_⟩ <;> simp only [okT] <;> omega
        · have ih := linF_fit n _ _ _ x h
          have h1 := docN_le (readF (Lib.cut r [10]).1 num).1
          have h2 := readF_few (Lib.cut r [10]).1 num
          obtain ⟨⟨a1, a2⟩, ⟨b1, b2⟩, c1, c2⟩ := ih
          refine ⟨⟨a1, ?_⟩, ⟨b1, ?_⟩, c1, ?_⟩ <;> omega
theorem flt_fit (l : List UInt8) (h : l.length ≤ 65536) : 0 ≤ (fltOf (scnF l)).1 ∧ (fltOf (scnF l)).1 ≤ 65536 ∧ 0 ≤ (fltOf (scnF l)).2.1 ∧ (fltOf (scnF l)).2.1 ≤ 65537 := by
  have hs : scnF l = allF l := by unfold scnF; rw [if_neg (by omega)]
  rw [hs]
  unfold fltOf
  rcases bad_find (xs := allF l) with ⟨h1, _⟩ | ⟨x, h1, h2, h3, _⟩
  · rw [h1]; simp
  · rw [h1]
    have := linF_fit _ _ _ _ x h2
    obtain ⟨⟨a1, a2⟩, ⟨b1, b2⟩, _⟩ := this
    dsimp only
    refine ⟨a1, ?_, b1, ?_⟩ <;> omega
theorem tok_fit (l : List UInt8) (h : l.length ≤ 65536) (t : Tk) (ht : t ∈ toksOf (scnF l)) : 0 ≤ t.line ∧ t.line ≤ 65537 := by
  have hs : scnF l = allF l := by unfold scnF; rw [if_neg (by omega)]
  rw [hs] at ht
  unfold toksOf at ht
  rcases bad_find (xs := allF l) with ⟨h1, _⟩ | ⟨x, h1, _⟩
  · rw [h1] at ht
    obtain ⟨x, hx, rfl⟩ := List.mem_map.1 ht
    have := linF_fit _ _ _ _ x hx
    omega
  · rw [h1] at ht
    cases ht
/-- The three ways. -/
def Alone (d1 : Nat) (n : Int) (T1 T2 TC : List Tk) (f1 f2 fc : Int × Int × Int) : Prop :=
  (f1.2.2 ≠ 0 ∧ T1 = [] ∧ TC = [] ∧ fc = f1) ∨
  (f1.2.2 = 0 ∧ f2.2.2 ≠ 0 ∧ T2 = [] ∧ TC = [] ∧ fc = (f2.1 + d1, f2.2.1 + n, f2.2.2)) ∨
  (f1.2.2 = 0 ∧ f2.2.2 = 0 ∧ fc.2.2 = 0 ∧ TC = T1 ++ T2.map (Tk.by n))
theorem alone (l1 l2 : List UInt8) (hs : (l1 ++ 10 :: l2).length ≤ 65536) : Alone (docN (toksOf (scnF l1))) ((endsOf l1 + 1 : Nat) : Int) (toksOf (scnF l1)) (toksOf (scnF l2)) (toksOf (scnF (l1 ++ 10 :: l2))) (fltOf (scnF l1)) (fltOf (scnF l2)) (fltOf (scnF (l1 ++ 10 :: l2))) := by
  have hl : (l1 ++ 10 :: l2).length = l1.length + l2.length + 1 := by simp; omega
  have s1 : scnF l1 = allF l1 := by unfold scnF; rw [if_neg (by omega)]
  have s2 : scnF l2 = allF l2 := by unfold scnF; rw [if_neg (by omega)]
  have s3 : scnF (l1 ++ 10 :: l2) = allF (l1 ++ 10 :: l2) := by unfold scnF; rw [if_neg (by omega)]
  rw [s1, s2, s3, allF_join]
  unfold Alone
  generalize ((endsOf l1 + 1 : Nat) : Int) = n
  generalize allF l1 = A
  generalize allF l2 = B
  rcases bad_find (xs := A) with ⟨h1, hb⟩ | ⟨x, h1, h2, h3, hb⟩
  · rw [if_neg hb]
    have f1 : fltOf A = (0, 0, 0) := by unfold fltOf; rw [h1]
    have t1 : toksOf A = A.map (·.tk) := by unfold toksOf; rw [h1]
    have hd : docsOf A = docN (toksOf A) := by rw [t1]; rfl
    rw [hd]
    obtain ⟨dn, hdn⟩ : ∃ d, docN (toksOf A) = d := ⟨_, rfl⟩
    rw [hdn]
    have hf : (A ++ B.map (Tl.by n dn)).find? (fun x => decide (x.e ≠ 0)) = (B.find? (fun x => decide (x.e ≠ 0))).map (Tl.by n dn) := by
      rw [List.find?_append, h1, find_by]; rfl
    rcases bad_find (xs := B) with ⟨g1, gb⟩ | ⟨x, g1, g2, g3, gb⟩
    · refine .inr (.inr ⟨by rw [f1], by unfold fltOf; rw [g1], ?_, ?_⟩)
      · unfold fltOf
        rw [hf, g1]
        rfl
      · have t2 : toksOf B = B.map (·.tk) := by unfold toksOf; rw [g1]
        have t3 : toksOf (A ++ B.map (Tl.by n dn)) = (A ++ B.map (Tl.by n dn)).map (·.tk) := by
          unfold toksOf
          rw [hf, g1]
          rfl
        rw [t3, t2, List.map_append, ← t1, List.map_map, List.map_map]
        congr 1
        refine List.map_congr_left (fun y hy => ?_)
        have he : y.e = 0 := Classical.byContradiction fun h => gb ⟨y, hy, h⟩
        simp [Tl.by, he, okT]
    · refine .inr (.inl ⟨by rw [f1], ?_, ?_, ?_, ?_⟩)
      · unfold fltOf; rw [g1]; exact g3
      · unfold toksOf; rw [g1]
      · unfold toksOf
        rw [hf, g1]
        rfl
      · have e2 : fltOf B = (x.d, x.ln, x.e) := by unfold fltOf; rw [g1]
        rw [e2]
        unfold fltOf
        rw [hf, g1]
        simp [Tl.by, g3]
  · rw [if_pos hb]
    refine .inl ⟨?_, ?_, ?_, rfl⟩
    · unfold fltOf; rw [h1]; exact h3
    · unfold toksOf; rw [h1]
    · unfold toksOf; rw [h1]
theorem alone_long (l : List UInt8) (h : 65536 < l.length) : toksOf (scnF l) = [] ∧ fltOf (scnF l) = (0, 0, 3) := by
  unfold scnF
  rw [if_pos h]
  exact ⟨by kernel_rfl, by kernel_rfl⟩
end Go.Proofs.YtjmgngocpokpgaaDoor
