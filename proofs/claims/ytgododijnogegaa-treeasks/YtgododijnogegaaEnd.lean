/-
  end: the number behind the last node of a tree's part.
-/
import Derived.Test.YtgododijnogegaaNd
import Derived.Deep.QuietTactic
namespace Go.Proofs.Ytgododijnogegaa
open Go.RowKit
set_option linter.unusedVariables false
set_option linter.unusedSimpArgs false
set_option maxRecDepth 100000
/-- down the last kids: from a node to the number behind its part -/
inductive Ends (l : List Nx) : Nat → Nat → Prop
  | leaf {q : Nat} {o : Nx} (h : l[q]? = some o) (h0 : o.ks = []) : Ends l q (q + 1)
  | down {q k r : Nat} {o : Nx} (h : l[q]? = some o) (hk : o.ks[o.ks.length - 1]? = some (k : Int)) (hq : q < k) (hr : Ends l k r) : Ends l q r
set_option maxHeartbeats 2000000 in
theorem end_any (w : World) (a : Option Addr) (n cap : Nat) (l : List Nx) (q r : Nat) (hn : l.length = n) (hl : n ≤ 140737488351232) (hS : Ns w a l) (hE : Ends l q r) :
    Calls Try.prog 28 #[.slice a n cap, .int .i64 q] w fun e w' => e = .returned (.int .i64 r) ∧ ∃ m, w' = w.drewN m := by
  have HS := hideL hS
  have HN := hideL hn
  have HE := hideL hE
  clear hS hn hE
  go_enter Try.func28, Try.ntmps28
  go_wp2
  go_loopw [1] (fun t wr => ∃ (i : Nat), t = .int .i64 i ∧ Hid (Ends l i r) ∧ ∃ m, wr = w.drewN m) (fun t _ => n - (intOf t).toNat)
  case atStart => exact ⟨q, rfl, HE, 0, rfl⟩
  case round =>
    obtain ⟨i, rfl, HEi, m, rfl⟩ := hrel
    have i0 : (0 : Int) ≤ i := by omega
    have key : ∃ o, l[i]? = some o ∧ ((o.ks = [] ∧ r = i + 1) ∨ ∃ k : Nat, o.ks[o.ks.length - 1]? = some (k : Int) ∧ i < k ∧ k < n ∧ Ends l k r) := by
      cases HEi.out with
      | leaf h h0 => exact ⟨_, h, .inl ⟨h0, rfl⟩⟩
      | down h hk hq hr =>
        refine ⟨_, h, .inr ⟨_, hk, hq, ?_, hr⟩⟩
        have := HN.out
        cases hr with
        | leaf h _ => have := (List.getElem?_eq_some_iff.1 h).1; omega
        | down h _ _ _ => have := (List.getElem?_eq_some_iff.1 h).1; omega
    obtain ⟨o, hoi, hcase⟩ := key
    have hin : i < n := by have := (List.getElem?_eq_some_iff.1 hoi).1; have := HN.out; omega
    have hin' : (i : Int) < n := by omega
    rcases HS.out.row with hx | ⟨g, off, rfl, hc⟩
    · rw [hx] at hoi; simp at hoi
    have c5 := hc i _ hoi 5 _ rfl
    have no := HS.out.each o (List.mem_of_getElem? hoi)
    have hbig := no.big
    have hlen := no.len
    obtain ⟨kd, key, tx, quo, ln, oa, on_, ocap, ks⟩ := o
    dsimp only at *
    rcases hcase with ⟨rfl, rfl⟩ | ⟨k, hk, hik, hkn, hE⟩
    · obtain rfl : on_ = 0 := hlen.symm
      clear no hc hoi
      go_wp2
      go_ret
      exact ⟨rfl, m, rfl⟩
    · have hpos : 0 < on_ := by
        have := (List.getElem?_eq_some_iff.1 hk).1; omega
      have hpos' : (0 : Int) < on_ := by omega
      rw [hlen] at hk
      obtain ⟨x, rfl, hcx⟩ := no.nums.at_ hk
      have hwr : IntKind.i64.wrap ((on_ : Int) - 1) = ((on_ - 1 : Nat) : Int) := by
        rw [IntWalk.i64_in _ (by omega)]; omega
      have e2 : (0 : Int) ≤ ((on_ - 1 : Nat) : Int) := by omega
      have e3 : ((on_ - 1 : Nat) : Int) < on_ := by omega
      have HE2 := hideL hE
      clear no hc hoi hE hk HEi
      go_wp2_with fail
      go_quiet (fail)
      go_wp2
      go_roundw
      case rel => exact ⟨k, rfl, HE2, m + nq, drew_two _ _ _⟩
      case measure => simp [intOf]; omega
end Go.Proofs.Ytgododijnogegaa
