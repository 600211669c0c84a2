/-
  A region that draws its order and only reads, inside a round of a range over a function: one walk of the order of the text serves.
-/
import Derived.Sort.QuietIn
import Derived.Sort.CutIn
namespace Go.Proofs.YtcjefhgnmpomjaaDoor
set_option linter.unusedVariables false

/-- No operation of them is a defer statement. -/
def calm (o : Oper) : Bool := match o.op with
  | .defer _ => false
  | _ => true
theorem calm_not {o : Oper} (h : calm o = true) : ∀ c, o.op ≠ .defer c := fun c e => by simp [calm, e] at h

theorem qr_op {F : Fence} {n : Nat} {P : Program} {C : World → Prop} {o : Oper} {a : Act} {w : World} {K : Act → Prop} {K' : Act → World → Prop} {Q' : Exit → Act → World → Prop} (hd : calm o = true) (hw : C w) (hK : ∀ a w', C w' → K a → K' a w')
    (hask : o.askedIn F P a C) (hq : o.quietIn F n P a C K) : o.wpIn F n P a w K' Q' := by
  obtain ⟨v, hv, hk⟩ := hq
  have hr := hv w hw
  refine ⟨hask w hw, ?_⟩
  rw [Oper.semAt_eq _ _ _ (calm_not hd)]
  unfold Oper.quietAtIn at hr
  revert hr
  cases (execOp a.eval o).run P w with
  | halt x w' => intro hr; exact hr.elim
  | ok x w' =>
    cases x with
    | value u => rintro ⟨rfl, rfl⟩; exact hK _ _ hw hk
    | skip => rintro ⟨rfl, rfl⟩; exact hK _ _ hw hk
    | enter f args =>
      rintro ⟨rfl, hn, hc⟩
      refine ⟨hn, hc.mono ?_⟩
      rintro e w'' ⟨rfl, hw''⟩
      exact hK _ _ hw'' hk
    | _ => intro hr; exact hr.elim

theorem qr_at {F : Fence} {n : Nat} {P : Program} {ops : Array Oper} {C : World → Prop} {i : Nat} {a : Act} {w : World} {K : Act → Prop} {K' : Act → World → Prop} {Q' : Exit → Act → World → Prop} (hd : ops.all calm = true) (hw : C w) (hK : ∀ a w', C w' → K a → K' a w')
    (hq : qOpIn F n P ops C i K a) : wpOpIn F n P ops Q' i K' a w := by
  unfold qOpIn at hq
  unfold wpOpIn
  cases ho : ops[i]? with
  | none => simp only [ho] at hq ⊢; exact hK _ _ hw hq
  | some o =>
    simp only [ho] at hq ⊢
    have hc : calm o = true := by
      obtain ⟨hi, rfl⟩ := Array.getElem?_eq_some_iff.1 ho
      exact Array.all_eq_true.1 hd i hi
    by_cases hg : Region.wanted o (yielded ops a.tmps) = true
    · simp only [hg, if_true] at hq ⊢; exact qr_op hc hw hK hq.1 hq.2
    · simp only [hg] at hq ⊢; exact ⟨hq.1 w hw, hK _ _ hw hq.2⟩

theorem qr_any {F : Fence} {n : Nat} {P : Program} {md : Region.Mode} {ops : Array Oper} {C : World → Prop} {Q : Act → Prop} {Q' : Exit → Act → World → Prop} (hd : ops.all calm = true) (hQ : ∀ a w, C w → Q a → Q' .normal a w) :
    ∀ (fuel : Nat) (listed : Array Bool) (a : Act) (w : World), C w → wpAnyQIn F n P md ops C Q fuel listed a → wpAnyIn F n P md ops Q' fuel listed a w := by
  intro fuel
  induction fuel with
  | zero => intro listed a w hw h; exact ⟨h.1, hQ _ _ hw h.2⟩
  | succ fuel ih => intro listed a w hw h; exact ⟨fun h0 => hQ _ _ hw (h.1 h0), fun i hi => qr_at hd hw (fun a' w' hw' hk => ih _ a' w' hw' hk) (h.2 i hi)⟩

theorem qr_region {F : Fence} {n : Nat} {P : Program} {id : Nat} {Q : Exit → Act → World → Prop} {a : Act} {w : World} {l : List Oper} (hd : l.toArray.all calm = true) (hm : P.follows .mixedOrders = true) (hB : Region.lexB .any l.toArray = true)
    (h : wpQuietIn F n P l.toArray (fun w' => ∃ n, w' = w.drewN n) (fun a' => ∀ w', (∃ n, w' = w.drewN n) → Q .normal a' w') l a) : (Code.region id l.toArray true).wpIn F n P Q a w := by
  have hB' := hB
  simp only [Region.lexB, Bool.and_eq_true] at hB'
  refine wpIn_region_any hm (qr_any (C := fun w' => ∃ n, w' = w.drewN n) (Q := fun a' => ∀ w', (∃ n, w' = w.drewN n) → Q .normal a' w') hd (fun _ w' hw' hq => hq w' hw') _ _ _ _ ⟨1, rfl⟩ ?_)
  have := wpAnyQIn_lex (F := F) (n := n) (C := fun w' => ∃ n, w' = w.drewN n) (md := .any) hB'.1 l 0 (Array.replicate l.toArray.size false) a (by simp) (by simpa using hB'.2) h
  simpa using this
end Go.Proofs.YtcjefhgnmpomjaaDoor
