/-
  Merge and the document's Merge answer the same.
-/
import Derived.Test.YtmljljpldljpjabMx
import Derived.Test.YtmljljpldljpjabMr
import Derived.Test.YtmljljpldljpjabCd
namespace Go.Proofs.Ytmljljpldljpjab
open Go.RowKit
set_option linter.unusedVariables false
set_option linter.unusedSimpArgs false
set_option maxRecDepth 100000
def mgL (C D : List Rs) : List Rs := match mrF C D with | some _ => [] | none => allM C D D.length
def mgA (C D : List Rs) : Int := match mrF C D with | some (a, _) => a | none => 0
def mgX (C D : List Rs) : Int := match mrF C D with | some (_, x) => x | none => 0
theorem mg_mem {C D : List Rs} {r : Rs} (h : r ∈ mgL C D) : r ∈ C ∨ r ∈ D := by
  unfold mgL at h
  rcases hm : mrF C D with _ | ⟨a, x⟩
  · rw [hm] at h
    dsimp only at h
    obtain ⟨h1, h2, _⟩ := mrF_none hm
    have := (merg_perm h1 h2).1.mem_iff.1 h
    unfold mergL at this
    rcases List.mem_append.1 this with h | h
    · exact .inl (List.mem_filter.1 h).1
    · exact .inr (List.mem_filter.1 h).1
  · rw [hm] at h; cases h
/-- what both leave -/
def MeE (w : World) (C D : List Rs) (e : Ending) (w' : World) : Prop := ∃ a k Q, e = .returned (.tuple #[.slice a (mgL C D).length k, .int .i64 (mgA C D), .int .i64 (mgX C D)]) ∧ Q.length = (mgL C D).length ∧ Lr w' a Q ∧ Q.map Rx.toRs = mgL C D ∧ Below w.heap.size w w'
theorem lr_nil (w : World) : Lr w none [] := ⟨(fun o ho => by cases ho), .inl rfl⟩
theorem merge_e (w : World) (a b : Option Addr) (c1 c2 : Nat) (C D : List Rx) (hC : Lr w a C) (hD : Lr w b D) (hs : C.length ≤ 1048576) (hs2 : D.length ≤ 1048576) :
    Calls Try.prog 6 #[.slice a C.length c1, .slice b D.length c2] w fun e w' => MeE w (C.map Rx.toRs) (D.map Rx.toRs) e w' := by
  refine (merge_any w a b C.length D.length c1 c2 C D hC hD rfl rfl hs hs2).mono ?_
  rintro e w' ⟨hb, ⟨p, x, hm, rfl⟩ | ⟨hm, a', c', qs, rfl, ho, hp⟩⟩
  · refine ⟨none, 0, [], ?_, ?_, lr_nil _, ?_, hb⟩
    · simp [mgL, mgA, mgX, hm]
    · simp [mgL, hm]
    · simp [mgL, hm]
  · have e1 := merg_one hm hp
    have e2 : qs.map Rx.toRs = mgL (C.map Rx.toRs) (D.map Rx.toRs) := by rw [e1]; simp [mgL, hm]
    have e3 : qs.length = (mgL (C.map Rx.toRs) (D.map Rx.toRs)).length := by rw [← e2, List.length_map]
    refine ⟨a', c', qs, ?_, e3, ho.lr (fun o h => ?_), e2, hb⟩
    · rw [← e3]; simp [mgA, mgX, hm]
    · have : o.toRs ∈ mgL (C.map Rx.toRs) (D.map Rx.toRs) := by rw [← e2]; exact List.mem_map_of_mem h
      rcases mg_mem this with h | h
      · obtain ⟨p, hp, e⟩ := List.mem_map.1 h
        rw [← e]; exact (hC.each p hp).ok
      · obtain ⟨p, hp, e⟩ := List.mem_map.1 h
        rw [← e]; exact (hD.each p hp).ok
theorem rmerge_e (w : World) (a b : Option Addr) (c1 c2 : Nat) (C D : List Rx) (hC : Lr w a C) (hD : Lr w b D) (hf1 : Frm a C.length c1) (hf2 : Frm b D.length c2) (hs : C.length ≤ 1048576) (hs2 : D.length ≤ 1048576) :
    Calls Try.prog 9 #[.slice a C.length c1, .slice b D.length c2] w fun e w' => MeE w (C.map Rx.toRs) (D.map Rx.toRs) e w' := by
  refine (rmerge_any w a b C.length D.length c1 c2 C D hC hD hf1 hf2 rfl rfl hs hs2).mono ?_
  rintro e w' ⟨hb, ⟨p, x, hm, rfl⟩ | ⟨hm, a', c', qs, rfl, ho, hp⟩⟩
  · refine ⟨none, 0, [], ?_, ?_, lr_nil _, ?_, hb⟩
    · simp [mgL, mgA, mgX, hm]
    · simp [mgL, hm]
    · simp [mgL, hm]
  · have e2 : qs.map Rx.toRs = mgL (C.map Rx.toRs) (D.map Rx.toRs) := by rw [hp]; simp [mgL, hm]
    have e3 : qs.length = (mgL (C.map Rx.toRs) (D.map Rx.toRs)).length := by rw [← e2, List.length_map]
    refine ⟨a', c', qs, ?_, e3, ho, e2, hb⟩
    · rw [← e3]; simp [mgA, mgX, hm]
end Go.Proofs.Ytmljljpldljpjab
