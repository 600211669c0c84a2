/-
  The document's put.
-/
import Derived.Test.YtmljljpldljpjabRk
import Derived.Test.YtmljljpldljpjabOw
namespace Go.Proofs.Ytmljljpldljpjab
open Go.RowKit
set_option linter.unusedVariables false
set_option linter.unusedSimpArgs false
set_option maxRecDepth 100000
/-- how a list may come -/
def Frm (a : Option Addr) (n c : Nat) : Prop := (a = none ∧ n = 0 ∧ c = 0) ∨ ∃ x, a = some x ∧ n ≤ c ∧ c ≤ maxLen
theorem own_frm {w : World} {base : Nat} {e : TypeId} {size : Nat} {a : Option Addr} {n c : Nat} {xs : List Value} (h : w.ownsRow base e size (.slice a n c) n xs) : Frm a n c := by
  rcases h.2 with ⟨h1, h2⟩ | ⟨g, cp, cur, h1, _, _, hc, hm, _⟩
  · injection h1 with h1 _ h3; exact .inl ⟨h1, h2, h3⟩
  · injection h1 with h1 _ h3; subst h3; exact .inr ⟨_, h1, hc, hm⟩
theorem add_addC (x : Addr) (k j : Nat) : (x.add k).add j = x.add (k + j) := add_add x k j
/-- the front of a list as a source -/
theorem front_src {w : World} {a : Option Addr} {n c k : Nat} {os : List Rx} (h : Cel w a 8 (os.map Rx.row)) (hn : os.length = n) (hk : k ≤ n) (hf : Frm a n c) :
    (a = none ∧ k = 0 ∧ c = 0 ∧ rowsOf Rx.row (os.take k) = []) ∨ ∃ ad, a = some ad ∧ (rowsOf Rx.row (os.take k)).length = k * 8 ∧ ∀ j u, (rowsOf Rx.row (os.take k))[j]? = some u → w.cell? (ad.add j) = some u := by
  have hl : (os.take k).length = k := by simp; omega
  have h' : Cel w a 8 ((os.take k).map Rx.row) := by
    rcases h with h | ⟨g, off, h1, h2⟩
    · simp at h; subst h; exact .inl (by simp)
    · refine .inr ⟨g, off, h1, fun i r hi => h2 i r ?_⟩
      rw [List.map_take] at hi
      have hik : i < k := by have := (List.getElem?_eq_some_iff.1 hi).1; simp at this; omega
      rwa [List.getElem?_take_of_lt hik] at hi
  rcases hf with ⟨rfl, h2, h3⟩ | ⟨x, rfl, _, _⟩
  · obtain rfl : k = 0 := by omega
    exact .inl ⟨rfl, rfl, h3, by simp [rowsOf]⟩
  · rcases h'.src rx_len (c := 0) (fun h => by cases h) with ⟨h, _⟩ | ⟨ad, h1, h2, h3⟩
    · cases h
    · rw [hl] at h2; exact .inr ⟨ad, h1, h2, h3⟩
/-- the rest of a list as a source -/
theorem rest_src {w : World} {x : Addr} {n k : Nat} {os : List Rx} (h : Cel w (some x) 8 (os.map Rx.row)) (hn : os.length = n) (hk : k ≤ n) :
    (rowsOf Rx.row (os.drop k)).length = (n - k) * 8 ∧ ∀ j u, (rowsOf Rx.row (os.drop k))[j]? = some u → w.cell? ((x.add (k * 8)).add j) = some u := by
  refine ⟨by rw [rowsOf_length Rx.row 8 rx_len]; simp [hn], fun j u hu => ?_⟩
  obtain ⟨i, o, r, h3, h4, rfl⟩ := rowsOf_split Rx.row 8 rx_len (os.drop k) j u hu
  rw [List.getElem?_drop] at h3
  obtain ⟨g, off, e, hc⟩ := h.at_ h3
  cases e
  have := hc r u h4
  rw [Go.WideShapes.add_plain, Go.WideShapes.add_plain]
  rw [show off + k * 8 + (i * 8 + r) = off + (k + i) * 8 + r by omega]
  exact this
/-- how many stand ahead -/
def cntB (l : List Rs) (r : Rs) : Nat := (l.takeWhile (fun x => lessB x r)).length
def putX (os : List Rx) (r : Rx) : List Rx := os.take (cntB (os.map Rx.toRs) r.toRs) ++ [r] ++ os.drop (cntB (os.map Rx.toRs) r.toRs)
theorem cnt_stop {l : List Rs} {r : Rs} {i : Nat} (h1 : ∀ (j : Nat) (x : Rs), j < i → l[j]? = some x → lessB x r = true) (h2 : ∀ x : Rs, l[i]? = some x → lessB x r = false) (hi : i ≤ l.length) : cntB l r = i := by
  induction l generalizing i with
  | nil => simp at hi; subst hi; rfl
  | cons a l ih =>
    unfold cntB
    rcases i with _ | i
    · have := h2 a rfl
      simp [List.takeWhile_cons, this]
    · have ha := h1 0 a (by omega) rfl
      have := ih (i := i) (fun j x hj hx => h1 (j + 1) x (by omega) (by simpa using hx)) (fun x hx => h2 x (by simpa using hx)) (by simpa using hi)
      unfold cntB at this
      simp [List.takeWhile_cons, ha, this]
end Go.Proofs.Ytmljljpldljpjab
