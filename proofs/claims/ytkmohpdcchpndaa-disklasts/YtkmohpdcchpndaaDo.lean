/-
  The changes of a file's bytes: their functions.
-/
import Derived.Test.YtkmohpdcchpndaaWrt
namespace Go.Proofs.Ytkmohpdcchpndaa
open Go.RowKit
set_option linter.unusedVariables false
set_option linter.unusedSimpArgs false
theorem step_copy_run {P : Program} {ops : Array Oper} {o : Oper} {a : Act} {w w' : World} {K : Act → World → Prop} {Q : Exit → Act → World → Prop} {E : Prop} {r : Value}
    (hgd : o.guard = none) (d s : Operand) (dT sT : TypeId) (hop : o.op = Op.call { callee := Callee.builtin Builtin.copy, args := #[d, s], argTypes := #[dT, sT] }) (vd vs : Value) (hd : a.eval d = vd) (hs : a.eval s = vs)
    (hrun : ∀ ty, (Builtin.copy_ #[dT, sT] ty #[vd, vs]).run P w = .ok r w') (hK : K (a.put o.dst r) w') :
    if Region.wanted o (yielded ops a.tmps) = true then Oper.wp P o a w K Q else E := by
  have hw : Region.wanted o (yielded ops a.tmps) = true := by simp [Region.wanted, hgd]
  rw [if_pos hw]
  unfold Oper.wp
  simp [execOp, hop, resolve, invoke, builtin, hd, hs, hrun, Result.andThen]
  exact hK
theorem setRow_grown (w : World) (g : Nat) (cs : Array Value) : w.grownBy (w.setRow g cs) (some g) :=
  ⟨rfl, rfl, rfl, by simp [World.setRow], fun k hk hne => by
    unfold World.setRow
    have : ¬ g = k := fun e => hne (by rw [e])
    simp [Array.getElem?_modify, this]⟩
/-- what copy does -/
theorem copy_any (w : World) (base : Nat) (ao : Option Addr) (cap at_ n m : Nat) (b p : List Int) (ap : Option Addr) (pc : Nat) (dv : Value) (hB : Buf w base (.slice ao b.length cap) b) (hp : Has w ap p) (hop : Octets p) (hn : n ≤ p.length) (hat : at_ ≤ b.length) (hm : m = min n (b.length - at_))
    (hdv : (∃ g off c, ao = some ⟨g, off, none⟩ ∧ dv = .slice (some ⟨g, off + at_, none⟩) (b.length - at_) c) ∨ (b.length - at_ = 0 ∧ ∃ x c, dv = .slice x 0 c)) :
    ∃ w1, (∀ ty, (Builtin.copy_ #[32, 32] ty #[dv, .slice ap n pc]).run Try.prog w = .ok (goInt m) w1) ∧ Buf w1 base (.slice ao b.length cap) (over b at_ (p.take m)) ∧ w.grownBy w1 (Value.slice ao b.length cap).ownBlock := by
  by_cases h0 : m = 0
  · refine ⟨w, fun ty => ?_, ?_, World.grownBy.refl _ _⟩
    · rw [h0]
      rcases hdv with ⟨g, off, c, _, rfl⟩ | ⟨hz, x, c, rfl⟩
      · exact run_copy_none w 32 32 ty 5 _ _ _ _ _ _ Try.underlying32 size5 (by show min n (b.length - at_) = 0; omega)
      · exact run_copy_none w 32 32 ty 5 _ _ _ _ _ _ Try.underlying32 size5 (by show min n 0 = 0; omega)
    · rw [h0]
      have : over b at_ (p.take 0) = b := by simp [over]
      rw [this]; exact hB
  · rcases hdv with ⟨g, off, c, rfl, rfl⟩ | ⟨hz, x, c, rfl⟩
    · obtain ⟨ho, ⟨e, _⟩ | ⟨g', off', cp, cur, e, hb, hg, h1, h2, h3, h4⟩⟩ := hB
      · cases e
      · cases e
        have hml : (p.take m).length = m := by simp; omega
        rcases hp with ⟨_, rfl⟩ | ⟨x, rfl, hp⟩
        · simp at hn; omega
        · refine ⟨_, fun ty => ?_, Buf.splice ho (hop.take m) hb hg h1 h2 h3 h4 (by rw [hml]; omega), ?_⟩
          · have := run_copy_row (P := Try.prog) w 32 32 ty 5 g (off + at_) (b.length - at_) c x n pc cur 5 (vals (p.take m)) Try.underlying32 size5 hg (by rw [vals_length, hml, hm])
              (fun j v hv => by
                obtain ⟨hj, rfl⟩ := vals_at _ j v hv
                rw [hml] at hj
                rw [hp j (by omega)]
                simp [List.getD, hj]) (by rw [vals_length, hml]; omega) (vals_one _)
            rw [this, vals_length, hml]
          · exact setRow_grown w g _
    · omega
theorem over_more (b p : List Int) (at_ n m : Nat) (hn : n ≤ p.length) (hat : at_ ≤ b.length) (hm : m = min n (b.length - at_)) : over b at_ (p.take m) ++ (p.take n).drop m = over b at_ (p.take n) := by
  by_cases h : n ≤ b.length - at_
  · obtain rfl : m = n := by omega
    have : (p.take m).drop m = [] := by simp
    rw [this, List.append_nil]
  · have e1 : b.drop (at_ + (p.take m).length) = [] := by simp; omega
    have e2 : b.drop (at_ + (p.take n).length) = [] := by simp; omega
    unfold over
    rw [e1, e2, List.append_nil, List.append_nil, List.append_assoc]
    congr 1
    rw [show p.take m = (p.take n).take m by rw [List.take_take, Nat.min_eq_left (by omega)], List.take_append_drop]
theorem cut_do (w : World) (base : Nat) (ao : Option Addr) (cap k ab : Nat) (b : List Int) (n : Int) (hB : Buf w base (.slice ao b.length cap) b) (hk : k ≤ b.length) (hl : b.length ≤ 140737488355328) (ha : w.cell? ⟨ab, 0, none⟩ = some (.int .i64 k)) :
    Calls Try.prog 67 #[.slice ao b.length cap, .int .i64 n, .pointer (some ⟨ab, 0, none⟩)] w fun e w' => w' = w ∧ e = .returned (.slice ao k cap) ∧ Buf w base (.slice ao k cap) (b.take k) := by
  have HT : Hid (Buf w base (.slice ao k cap) (b.take k)) := hB.take k hk
  obtain ⟨_, _, hv, hb, _, hlc, hcm⟩ := hB.form
  cases hv
  have k0 : (0 : Int) ≤ k := by omega
  obtain ⟨len, hlen⟩ : ∃ len, b.length = len := ⟨_, rfl⟩
  rw [hlen] at hk hl hlc ⊢
  unfold maxLen at hcm
  clear hB hlen
  cases ao with
  | none =>
    obtain rfl := hb rfl
    obtain rfl : len = 0 := by omega
    obtain rfl : k = 0 := by omega
    go_enter Try.func67, Try.ntmps67
    go_wp2_with fail
    go_ret
    exact ⟨rfl, rfl, HT.out⟩
  | some x =>
    have hkc : (k : Int) ≤ cap := by omega
    go_enter Try.func67, Try.ntmps67
    go_wp2_with fail
    go_ret
    exact ⟨rfl, rfl, HT.out⟩
end Go.Proofs.Ytkmohpdcchpndaa
