/-
  A quoted text is read back.
-/
import Derived.Test.YtjmgngocpokpgaaDoorAlm
namespace Go.Proofs.YtjmgngocpokpgaaDoor
open Go.RowKit
set_option linter.unusedVariables false
set_option linter.unusedSimpArgs false
def hexD (n : Nat) : UInt8 := hexL.getD n 0
/-- A byte as it stands between quotes. -/
def escL (c : UInt8) : List UInt8 := if c.toNat = 34 ∨ c.toNat = 92 then [92, c] else if c.toNat = 10 then [92, 110] else if c.toNat = 9 then [92, 116] else if unsF c.toNat = true then [92, 120, hexD (c.toNat / 16), hexD (c.toNat % 16)] else [c]
def qtL (l : List UInt8) : List UInt8 := 34 :: (l.flatMap escL ++ [34])
theorem hex_fin : ∀ n : Fin 256, 0 ≤ hexI (hexD (n.val / 16)) ∧ 0 ≤ hexI (hexD (n.val % 16)) ∧ hexB (hexI (hexD (n.val / 16))) (hexI (hexD (n.val % 16))) = UInt8.ofNat n.val ∧ unsF ((hexD (n.val / 16)).toNat : Int) = false ∧ unsF ((hexD (n.val % 16)).toNat : Int) = false := by decide +kernel
theorem hex_back (c : UInt8) : 0 ≤ hexI (hexD (c.toNat / 16)) ∧ 0 ≤ hexI (hexD (c.toNat % 16)) ∧ hexB (hexI (hexD (c.toNat / 16))) (hexI (hexD (c.toNat % 16))) = c ∧ unsF ((hexD (c.toNat / 16)).toNat : Int) = false ∧ unsF ((hexD (c.toNat % 16)).toNat : Int) = false := by
  have := hex_fin ⟨c.toNat, c.toNat_lt⟩
  simpa using this
theorem escL_len (c : UInt8) : 1 ≤ (escL c).length ∧ (escL c).length ≤ 4 := by
  unfold escL
  split
  · simp
  · split
    · simp
    · split
      · simp
      · split <;> simp
/-- A step over one byte. -/
theorem unqD_step (L : List UInt8) (c : UInt8) (r : List UInt8) (n k : Nat) (acc : List UInt8) (h : L.drop k = escL c ++ r) : unqD L (n + 1) k acc = unqD L n (k + (escL c).length) (acc ++ [c]) := by
  have hat : ∀ x s, L.drop k = x :: s → L[k]? = some x := fun x s e => by
    have : (L.drop k)[0]? = some x := by rw [e]; rfl
    rwa [List.getElem?_drop, Nat.add_zero] at this
  have hcs : ∀ x y s m, L.drop k = x :: y :: s → (x.toNat : Int) = 92 → ∀ d, escF (x :: y :: s) = some (d, m) → unqD L (n + 1) k acc = unqD L n (k + m) (acc ++ [d]) := fun x y s m e hx d hd => by
    rw [unqD, hat _ _ e]
    dsimp only
    rw [if_neg (by omega), if_pos hx, e, hd]
  unfold escL at h ⊢
  split at h
  · rename_i hc
    rw [if_pos hc]
    refine hcs 92 c r 2 h rfl c ?_
    unfold escF
    dsimp only [List.getElem?_cons_succ, List.getElem?_cons_zero]
    rw [if_pos (by omega)]
  · rename_i h1
    rw [if_neg h1]
    split at h
    · rename_i h2
      rw [if_pos h2]
      have e : c = 10 := UInt8.toNat_inj.1 h2
      subst e
      exact hcs 92 110 r 2 h rfl 10 rfl
    · rename_i h2
      rw [if_neg h2]
      split at h
      · rename_i h3
        rw [if_pos h3]
        have e : c = 9 := UInt8.toNat_inj.1 h3
        subst e
        exact hcs 92 116 r 2 h rfl 9 rfl
      · rename_i h3
        rw [if_neg h3]
        split at h
        · rename_i h4
          rw [if_pos h4]
          obtain ⟨b1, b2, b3, _⟩ := hex_back c
          refine hcs 92 120 _ 4 h rfl c ?_
          show (if 0 ≤ hexI (hexD (c.toNat / 16)) ∧ 0 ≤ hexI (hexD (c.toNat % 16)) then some (hexB (hexI (hexD (c.toNat / 16))) (hexI (hexD (c.toNat % 16))), 4) else none) = some (c, 4)
          rw [if_pos ⟨b1, b2⟩, b3]
        · rename_i h4
          rw [if_neg h4]
          have e := hat c r h
          rw [unqD, e]
          dsimp only
          rw [if_neg (by omega), if_neg (by omega)]
          rfl
theorem unqD_all (L : List UInt8) : ∀ (l : List UInt8) (n k : Nat) (acc : List UInt8), L.drop k = l.flatMap escL ++ [34] → l.length < n → unqD L n k acc = some (acc ++ l, L.length)
  | [], 0, k, acc, h, hn => by simp at hn
  | [], n + 1, k, acc, h, hn => by
    have h0 : L.drop k = [34] := h
    have e : L[k]? = some 34 := by
      have : (L.drop k)[0]? = some 34 := by rw [h0]; rfl
      rwa [List.getElem?_drop, Nat.add_zero] at this
    have hl : L.length = k + 1 := by
      have := congrArg List.length h0
      rw [List.length_drop] at this
      simp at this
      omega
    rw [unqD, e]
    dsimp only
    rw [if_pos (by decide), List.append_nil, hl]
  | c :: l, 0, k, acc, h, hn => by simp at hn
  | c :: l, n + 1, k, acc, h, hn => by
    have h' : L.drop k = escL c ++ (l.flatMap escL ++ [34]) := by rw [h]; simp
    rw [unqD_step L c _ n k acc h']
    have h2 : L.drop (k + (escL c).length) = l.flatMap escL ++ [34] := by
      rw [← List.drop_drop, h', List.drop_left]
    rw [unqD_all L l n _ _ h2 (by simpa using hn)]
    simp
theorem unq_back (l : List UInt8) : unqF (qtL l) = some (l, (qtL l).length) := by
  unfold unqF qtL
  dsimp only
  rw [if_pos (by decide)]
  have hfm : ∀ l : List UInt8, l.length ≤ (l.flatMap escL).length := fun l => by
    induction l with
    | nil => simp
    | cons c l ih => have := (escL_len c).1; simp only [List.flatMap_cons, List.length_append, List.length_cons]; omega
  have := unqD_all (34 :: (l.flatMap escL ++ [34])) l (34 :: (l.flatMap escL ++ [34])).length 1 [] rfl (by have := hfm l; simp only [List.length_cons, List.length_append, List.length_nil]; omega)
  rw [this]
  simp
theorem qtL_len (l : List UInt8) : (qtL l).length ≤ 4 * l.length + 2 := by
  unfold qtL
  have : ∀ l : List UInt8, (l.flatMap escL).length ≤ 4 * l.length := fun l => by
    induction l with
    | nil => simp
    | cons c l ih => have := (escL_len c).2; simp only [List.flatMap_cons, List.length_append, List.length_cons]; omega
  have := this l
  simp only [List.length_cons, List.length_append, List.length_nil]
  omega
theorem escL_seen (c x : UInt8) (h : x ∈ escL c) : unsF x.toNat = false := by
  unfold escL at h
  split at h
  · rename_i h1
    rcases List.mem_cons.1 h with rfl | h
    · decide
    · obtain rfl := List.mem_singleton.1 h
      simp [unsF]; omega
  · split at h
    · rcases List.mem_cons.1 h with rfl | h
      · decide
      · obtain rfl := List.mem_singleton.1 h
        decide
    · split at h
      · rcases List.mem_cons.1 h with rfl | h
        · decide
        · obtain rfl := List.mem_singleton.1 h
          decide
      · split at h
        · obtain ⟨_, _, _, b4, b5⟩ := hex_back c
          simp only [List.mem_cons, List.not_mem_nil, or_false] at h
          rcases h with rfl | rfl | rfl | rfl
          · decide
          · decide
          · exact b4
          · exact b5
        · rename_i h4
          obtain rfl := List.mem_singleton.1 h
          simpa using h4
theorem qtL_seen (l : List UInt8) (x : UInt8) (h : x ∈ qtL l) : unsF x.toNat = false := by
  unfold qtL at h
  rcases List.mem_cons.1 h with rfl | h
  · decide
  · rcases List.mem_append.1 h with h | h
    · obtain ⟨c, _, hx⟩ := List.mem_flatMap.1 h
      exact escL_seen c x hx
    · obtain rfl := List.mem_singleton.1 h
      decide
theorem strF_seen (l : List UInt8) (h : ∀ x ∈ l, unsF x.toNat = false) : strF l = 0 := by
  unfold strF
  rw [if_neg, if_neg]
  · simp only [List.any_eq_true, not_exists, not_and]
    intro x hx
    rw [h x hx]
    simp
  · simp only [List.any_eq_true, not_exists, not_and]
    intro x hx e
    have e' : x = 9 := by simpa using e
    subst e'
    have := h 9 hx
    revert this
    decide
theorem seen_strF (l : List UInt8) (h : strF l = 0) (x : UInt8) (hx : x ∈ l) : unsF x.toNat = false := by
  unfold strF at h
  split at h
  · cases h
  · split at h
    · cases h
    · rename_i h1 h2
      simp only [List.any_eq_true, not_exists, not_and] at h2
      simpa using h2 x hx
/-- A text of one line. -/
theorem one_line (l : List UInt8) (h : strF l = 0) (hne : l ≠ []) (ts : List Tk) (hr : readF l 1 = (ts, 0)) : allF l = ts.map okT := by
  have hno : ¬ (10 : UInt8) ∈ l := fun hm => by have := seen_strF l h 10 hm; revert this; decide
  unfold allF
  rw [linF, if_neg hne, cut_no hno]
  dsimp only
  have e : ((1 : Nat) : Int) = 1 := rfl
  rw [e, hr, linF_nil]
  simp
theorem trim_blanks (b : Nat) (c : UInt8) (r : List UInt8) (hc : ¬ c = 32) : Lib.trimLeftB (List.replicate b 32 ++ c :: r) 32 = c :: r := by
  unfold Lib.trimLeftB
  induction b with
  | zero => simp [hc]
  | succ b ih => rw [List.replicate_succ, List.cons_append, List.dropWhile_cons_of_pos (by simp), ih]
theorem skip_blanks (p : List UInt8) (b : Nat) (c : UInt8) (r : List UInt8) (hc : ¬ c = 32) : skpF (p ++ (List.replicate b 32 ++ c :: r)) p.length = p.length + b := by
  unfold skpF
  rw [List.drop_left, trim_blanks b c r hc]
  simp
  omega
theorem qtL_cons (s : List UInt8) : ∃ r, qtL s = 34 :: r := ⟨_, rfl⟩
/-- What is left of a line is a quoted text. -/
theorem scaF_qt (p s : List UInt8) (ts : List Tk) : scaF 1 (p ++ qtL s) p.length ts = (ts ++ [⟨4, 1, p.length, s, true⟩], 0) := by
  obtain ⟨r, hr⟩ := qtL_cons s
  have hu := unq_back s
  rw [hr] at hu ⊢
  unfold scaF
  rw [List.drop_left]
  dsimp only
  rw [if_pos (by decide)]
  unfold qtdF
  rw [List.drop_left]
  dsimp only
  rw [hu]
  dsimp only
  rw [if_pos (by simp [nulF, Lib.trimLeftB])]
  rfl
theorem keyF_qt (s : List UInt8) : keyF (qtL s) = none := by
  obtain ⟨r, hr⟩ := qtL_cons s
  have hu := unq_back s
  rw [hr] at hu ⊢
  unfold keyF
  dsimp only
  rw [if_pos (by decide), hu]
  dsimp only
  rw [List.drop_length]
  rfl
theorem read_qt (b : Nat) (s : List UInt8) : readF (List.replicate b 32 ++ qtL s) 1 = ([⟨4, 1, b, s, true⟩], 0) := by
  have hs : strF (List.replicate b 32 ++ qtL s) = 0 := strF_seen _ fun x hx => by
    rcases List.mem_append.1 hx with h | h
    · obtain ⟨_, rfl⟩ := List.mem_replicate.1 h
      decide
    · exact qtL_seen s x h
  have hd : docF (List.replicate b 32 ++ qtL s) = false := by
    unfold docF Lib.hasPrefix
    rcases b with _ | b
    · rfl
    · rfl
  unfold readF
  rw [hs, hd, if_neg (by simp), if_neg (by simp)]
  have hk := skip_blanks [] b 34 (s.flatMap escL ++ [34]) (by decide)
  have hk2 : skpF (List.replicate b 32 ++ qtL s) 0 = b := by simpa [qtL] using hk
  rw [hk2]
  have hl : (List.replicate b (32 : UInt8)).length = b := by simp
  have hsc := scaF_qt (List.replicate b 32) s []
  rw [hl] at hsc
  rw [conF]
  have hdr : (List.replicate b 32 ++ qtL s).drop b = qtL s := by
    have := List.drop_left (l₁ := List.replicate b (32 : UInt8)) (l₂ := qtL s)
    rwa [hl] at this
  have hkey := keyF_qt s
  obtain ⟨r, hr⟩ := qtL_cons s
  rw [hdr, hr]
  dsimp only
  rw [if_neg (by simp [ovrF]), if_neg (by show ¬ (((34 :: r : List UInt8) == [45]) || Lib.hasPrefix (34 :: r) [45, 32]) = true; simp [Lib.hasPrefix]), ← hr, hkey]
  dsimp only
  exact hsc
/-- A key ahead of it. -/
theorem read_kqt (b : Nat) (s : List UInt8) : readF ([107, 101, 121, 58, 32] ++ (List.replicate b 32 ++ qtL s)) 1 = ([⟨3, 1, 0, [107, 101, 121], false⟩, ⟨4, 1, ((5 + b : Nat) : Int), s, true⟩], 0) := by
  have hs : strF ([107, 101, 121, 58, 32] ++ (List.replicate b 32 ++ qtL s)) = 0 := strF_seen _ fun x hx => by
    rcases List.mem_append.1 hx with h | h
    · simp only [List.mem_cons, List.not_mem_nil, or_false] at h
      rcases h with rfl | rfl | rfl | rfl | rfl <;> decide
    · rcases List.mem_append.1 h with h | h
      · obtain ⟨_, rfl⟩ := List.mem_replicate.1 h
        decide
      · exact qtL_seen s x h
  have hd : docF ([107, 101, 121, 58, 32] ++ (List.replicate b 32 ++ qtL s)) = false := rfl
  unfold readF
  rw [hs, hd, if_neg (by simp), if_neg (by simp)]
  have hk2 : skpF ([107, 101, 121, 58, 32] ++ (List.replicate b 32 ++ qtL s)) 0 = 0 := by
    have := skip_blanks [] 0 107 ([101, 121, 58, 32] ++ (List.replicate b 32 ++ qtL s)) (by decide)
    simpa using this
  rw [hk2, conF, List.drop_zero]
  have hl : ([107, 101, 121, 58, 32] ++ List.replicate b (32 : UInt8)).length = 5 + b := by simp; omega
  have hsc := scaF_qt ([107, 101, 121, 58, 32] ++ List.replicate b 32) s [⟨3, 1, 0, [107, 101, 121], false⟩]
  have hk4 : skpF ([107, 101, 121, 58, 32] ++ (List.replicate b 32 ++ qtL s)) (0 + 4) = 5 + b := by
    have := skip_blanks [107, 101, 121, 58] (b + 1) 34 (s.flatMap escL ++ [34]) (by decide)
    rw [List.replicate_succ] at this
    have e : [107, 101, 121, 58] ++ (32 :: List.replicate b (32 : UInt8) ++ 34 :: (s.flatMap escL ++ [34])) = [107, 101, 121, 58, 32] ++ (List.replicate b 32 ++ qtL s) := rfl
    rw [e] at this
    rw [show (0 + 4 : Nat) = ([107, 101, 121, 58] : List UInt8).length from rfl, this]
    simp
    omega
  rw [List.append_assoc, hl] at hsc
  have hdr : ([107, 101, 121, 58, 32] ++ (List.replicate b 32 ++ qtL s)).drop (5 + b) = qtL s := by
    have := List.drop_left (l₁ := [107, 101, 121, 58, 32] ++ List.replicate b (32 : UInt8)) (l₂ := qtL s)
    rwa [hl, List.append_assoc] at this
  have hkey : keyF ([107, 101, 121, 58, 32] ++ (List.replicate b 32 ++ qtL s)) = some ([107, 101, 121], 4) := rfl
  have hlst : ([107, 101, 121, 58, 32] ++ (List.replicate b 32 ++ qtL s) : List UInt8) = 107 :: ([101, 121, 58, 32] ++ (List.replicate b 32 ++ qtL s)) := rfl
  have hgo : ∀ L : List UInt8, L = [107, 101, 121, 58, 32] ++ (List.replicate b 32 ++ qtL s) → (match L with
    | [] => (([], 0) : List Tk × Int)
    | c :: r => if ovrF (c :: r) = true then ([], 0) else if itmF (c :: r) = true then conF 1 L ((L.length + 0)) (skpF L (0 + 1)) ([] ++ [⟨2, 1, (0 : Nat), [], quoF c.toNat⟩])
      else match keyF (c :: r) with
        | none => scaF 1 L 0 []
        | some (t, k) => if ovrF (L.drop (skpF L (0 + k))) = true then ([] ++ [⟨3, 1, (0 : Nat), t, quoF c.toNat⟩], 0) else scaF 1 L (skpF L (0 + k)) ([] ++ [⟨3, 1, (0 : Nat), t, quoF c.toNat⟩])) = ([⟨3, 1, 0, [107, 101, 121], false⟩, ⟨4, 1, ((5 + b : Nat) : Int), s, true⟩], 0) := by
    intro L hL
    rw [← hL] at hkey hk4 hsc hdr hlst
    rw [hlst]
    dsimp only
    rw [← hlst]
    have ho : ovrF L = false := by rw [hlst]; rfl
    have hi : itmF L = false := by rw [hlst]; rfl
    rw [ho, hi, hkey]
    dsimp only
    rw [if_neg (by simp), if_neg (by simp), hk4, hdr]
    have ho2 : ovrF (qtL s) = false := rfl
    rw [ho2, if_neg (by simp)]
    exact hsc
  exact hgo _ rfl
end Go.Proofs.YtjmgngocpokpgaaDoor
