import Derived.ScopeJumps
import Derived.WalkMore
import Derived.Test.YtmmnpnhffgpchaaGreatDoorBn4
import Derived.Test.YtmmnpnhffgpchaaGreatDoorBn5
/-
  A scope with several labels: what holds at each jump, and a measure that each pass lowers.
-/
namespace Go.Proofs.YtmmnpnhffgpchaaGreatDoor.Ln
/-- As Q; by a goto: what holds at its label. -/
def jmps (J : Nat → Act → World → Prop) (Q : Exit → Act → World → Prop) : Exit → Act → World → Prop
  | .goto l, a, w => J l a w
  | e, a, w => Q e a w
theorem jmps_ret {J : Nat → Act → World → Prop} {Q : Exit → Act → World → Prop} {a : Act} {w : World} (h : Q .ret a w) : jmps J Q .ret a w := h
theorem jmps_goto {J : Nat → Act → World → Prop} {Q : Exit → Act → World → Prop} {l : Nat} {a : Act} {w : World} (h : J l a w) : jmps J Q (.goto l) a w := h
theorem wp_scope_many {P : Program} {a : Act} {w : World} {Q : Exit → Act → World → Prop} {c : Code} (J : Nat → Act → World → Prop) (μ : Nat → Act → World → Nat)
    (first : c.wp P (jmps J Q) a w)
    (pass : ∀ l a w, J l a w → ∃ rest, findLabel c l = some rest ∧ rest.wp P (jmps (fun l' a' w' => J l' a' w' ∧ μ l' a' w' < μ l a w) Q) a w) : (Code.scope c).wp P Q a w := by
  intro b k cs
  have key : ∀ n l a w, μ l a w = n → J l a w → ∃ rest, gotoIn l (.inScope c :: k) = some (.code rest :: .inScope c :: k) ∧ ∃ e a' w', Q e a' w' ∧ Arrives P (lone (b.at a (.code rest :: .inScope c :: k)) cs w) b k cs e a' w' := by
    intro n
    induction n using Nat.strongRecOn with
    | _ n ih =>
      intro l a w hn hJ
      obtain ⟨rest, hf, hp⟩ := pass l a w hJ
      refine ⟨rest, by simp [gotoIn, hf], ?_⟩
      obtain ⟨e, a₁, w₁, hq, harr⟩ := hp b (.inScope c :: k) cs
      cases e with
      | normal => exact ⟨.normal, a₁, w₁, hq, Steps.trans harr (.one step_inScope)⟩
      | exit id => exact ⟨.exit id, a₁, w₁, hq, fun k' hk => harr k' (by simp [exitTo, hk])⟩
      | goto l' =>
        obtain ⟨hJ', hlt⟩ := hq
        obtain ⟨rest', hg, e₂, a₂, w₂, hq₂, harr₂⟩ := ih _ (by omega) l' a₁ w₁ rfl hJ'
        exact ⟨e₂, a₂, w₂, hq₂, .of_steps (harr _ hg) harr₂⟩
      | ret => exact ⟨_, a₁, w₁, hq, harr⟩
      | panic ch => exact ⟨_, a₁, w₁, hq, harr⟩
      | outgrown => exact ⟨_, a₁, w₁, hq, harr⟩
  obtain ⟨e, a₁, w₁, hq, harr⟩ := first b (.inScope c :: k) cs
  cases e with
  | normal => exact ⟨.normal, a₁, w₁, hq, .head step_scope (Steps.trans harr (.one step_inScope))⟩
  | exit id => exact ⟨.exit id, a₁, w₁, hq, fun k' hk => .head step_scope (harr k' (by simp [exitTo, hk]))⟩
  | goto l' =>
    obtain ⟨rest, hg, e₂, a₂, w₂, hq₂, harr₂⟩ := key _ l' a₁ w₁ rfl hq
    exact ⟨e₂, a₂, w₂, hq₂, .of_steps (.head step_scope (harr _ hg)) harr₂⟩
  | ret => exact ⟨_, a₁, w₁, hq, .of_steps (.one step_scope) harr⟩
  | panic ch => exact ⟨_, a₁, w₁, hq, .of_steps (.one step_scope) harr⟩
  | outgrown => exact ⟨_, a₁, w₁, hq, .of_steps (.one step_scope) harr⟩
end Go.Proofs.YtmmnpnhffgpchaaGreatDoor.Ln

/-
  A line's tokens, as the program reads them: what it says, and the reader's methods over the reader.
-/
namespace Go.Proofs.YtmmnpnhffgpchaaGreatDoor.Ln
open Go.RowKit
set_option linter.unusedVariables false
set_option linter.unusedSimpArgs false
def qtdF (num : Int) (l : List UInt8) (p : Nat) (ts : List Tk) : List Tk × Int := match l.drop p with
  | [] => ([], 0)
  | c :: r => match unqF (c :: r) with
    | none => ([], 82)
    | some (t, k) => if nulF ((c :: r).drop k) = true then (ts ++ [⟨4, num, p, t, quoF c.toNat⟩], 0) else ([], 82)
def scaF (num : Int) (l : List UInt8) (p : Nat) (ts : List Tk) : List Tk × Int := match l.drop p with
  | [] => ([], 0)
  | c :: r => if quoF c.toNat = true then qtdF num l p ts else match plnF (c :: r) with
    | [] => ([], 83)
    | d :: t => (ts ++ [⟨4, num, p, d :: t, quoF c.toNat⟩], 0)
def conF (num : Int) (l : List UInt8) : Nat → Nat → List Tk → List Tk × Int
  | 0, _, _ => ([], 0)
  | n + 1, p, ts => match l.drop p with
    | [] => (ts, 0)
    | c :: r => if ovrF (c :: r) = true then (ts, 0) else if itmF (c :: r) = true then conF num l n (skpF l (p + 1)) (ts ++ [⟨2, num, p, [], quoF c.toNat⟩])
      else match keyF (c :: r) with
        | none => scaF num l p ts
        | some (t, k) => if ovrF (l.drop (skpF l (p + k))) = true then (ts ++ [⟨3, num, p, t, quoF c.toNat⟩], 0) else scaF num l (skpF l (p + k)) (ts ++ [⟨3, num, p, t, quoF c.toNat⟩])
/-- A line's tokens, or its error. -/
def readF (l : List UInt8) (num : Int) : List Tk × Int := if strF l ≠ 0 then ([], strF l) else if docF l = true then ([⟨1, num, 0, [], quoF (((l[0]?).getD 0).toNat)⟩], 0) else conF num l (l.length + 1) (skpF l 0) []
theorem skpF_ge (l : List UInt8) (p : Nat) (h : p ≤ l.length) : p ≤ skpF l p := by
  have := past_len (l.drop p)
  rw [List.length_drop] at this
  unfold skpF
  omega
theorem Rd.below {w w' : World} {base b : Nat} {l : List UInt8} {num : Int} {p : Nat} {tv : Value} {ts : List Tk} (h : Rd w base b l num p tv ts) (hb : Below w.heap.size w w') : Rd w' base b l num p tv ts :=
  ⟨(hb.block b (Array.getElem?_eq_some_iff.1 h.blk).1).trans h.blk, own_blk h.own (fun k hk => hb.block k (h.own.lt k hk).2), h.low⟩
theorem Rd.c0 {w : World} {base b : Nat} {l : List UInt8} {num : Int} {p : Nat} {tv : Value} {ts : List Tk} (h : Rd w base b l num p tv ts) : w.cell? ⟨b, 0, none⟩ = some (.string ⟨l.toArray⟩) := cell_of h.blk 0 _ rfl
theorem Rd.c2 {w : World} {base b : Nat} {l : List UInt8} {num : Int} {p : Nat} {tv : Value} {ts : List Tk} (h : Rd w base b l num p tv ts) : w.cell? ⟨b, 2, none⟩ = some (.int .i64 p) := cell_of h.blk 2 _ rfl
theorem Rd.c3 {w : World} {base b : Nat} {l : List UInt8} {num : Int} {p : Nat} {tv : Value} {ts : List Tk} (h : Rd w base b l num p tv ts) : w.cell? ⟨b, 3, none⟩ = some tv := cell_of h.blk 3 _ rfl
theorem over_rd {l : List UInt8} {num : Int} {p b base : Nat} {tv : Value} {ts : List Tk} {w : World} (hR : Rd w base b l num p tv ts) (hs : l.length ≤ 2 ^ 30) (ha : p ≤ l.length) (v : Bool) (hv : ovrF (l.drop p) = v) :
    Calls Tryz.prog 44 #[.pointer (some ⟨b, 0, none⟩)] w fun e w' => e = .returned (.bool v) ∧ Rd w' base b l num p tv ts ∧ Below w.heap.size w w' := by
  refine (over_any l p b w (by omega) ha hR.c0 hR.c2).mono ?_
  rintro e w' ⟨rfl, q, rfl⟩
  exact ⟨by rw [hv], rd_drew hR q, below_drewN (Below.refl _ _) q⟩
theorem rest_rd {l : List UInt8} {num : Int} {p b base : Nat} {tv : Value} {ts : List Tk} {w : World} (hR : Rd w base b l num p tv ts) (hs : l.length ≤ 2 ^ 30) (ha : p ≤ l.length) (d : List UInt8) (hd : l.drop p = d) :
    Calls Tryz.prog 46 #[.pointer (some ⟨b, 0, none⟩)] w fun e w' => e = .returned (.string ⟨d.toArray⟩) ∧ Rd w' base b l num p tv ts ∧ Below w.heap.size w w' := by
  refine (rest_at l d p b w (by omega) ha hd hR.c0 hR.c2).mono ?_
  rintro e w' ⟨rfl, q, rfl⟩
  exact ⟨rfl, rd_drew hR q, below_drewN (Below.refl _ _) q⟩
theorem skip_rd {l : List UInt8} {num : Int} {p b base : Nat} {tv : Value} {ts : List Tk} {w : World} (hR : Rd w base b l num p tv ts) (hs : l.length ≤ 2 ^ 30) (ha : p ≤ l.length) :
    Calls Tryz.prog 43 #[.pointer (some ⟨b, 0, none⟩)] w fun e w' => e = .returned (.tuple #[]) ∧ Rd w' base b l num (skpF l p) tv ts ∧ Below base w w' := by
  refine (skip_any l num p b tv w (by omega) ha hR.blk).mono ?_
  rintro e w' ⟨rfl, q, rfl⟩
  exact ⟨rfl, rd_at (rd_drew hR q) _, (below_drewN (Below.refl _ _) q).setCell hR.low _⟩
/-- A frame of 73 slots. -/
theorem frame73 (t : Array Value) (h : t.size = 73) : ∃ u0 u1 u2 u3 u4 u5 u6 u7 u8 u9 u10 u11 u12 u13 u14 u15 u16 u17 u18 u19 u20 u21 u22 u23 u24 u25 u26 u27 u28 u29 u30 u31 u32 u33 u34 u35 u36 u37 u38 u39 u40 u41 u42 u43 u44 u45 u46 u47 u48 u49 u50 u51 u52 u53 u54 u55 u56 u57 u58 u59 u60 u61 u62 u63 u64 u65 u66 u67 u68 u69 u70 u71 u72 : Value, t = #[u0, u1, u2, u3, u4, u5, u6, u7, u8, u9, u10, u11, u12, u13, u14, u15, u16, u17, u18, u19, u20, u21, u22, u23, u24, u25, u26, u27, u28, u29, u30, u31, u32, u33, u34, u35, u36, u37, u38, u39, u40, u41, u42, u43, u44, u45, u46, u47, u48, u49, u50, u51, u52, u53, u54, u55, u56, u57, u58, u59, u60, u61, u62, u63, u64, u65, u66, u67, u68, u69, u70, u71, u72] := by
  obtain ⟨t⟩ := t
  simp only [List.size_toArray] at h
  rcases t with _ | ⟨u0, t⟩
  · simp at h
  rcases t with _ | ⟨u1, t⟩
  · simp at h
  rcases t with _ | ⟨u2, t⟩
  · simp at h
  rcases t with _ | ⟨u3, t⟩
  · simp at h
  rcases t with _ | ⟨u4, t⟩
  · simp at h
  rcases t with _ | ⟨u5, t⟩
  · simp at h
  rcases t with _ | ⟨u6, t⟩
  · simp at h
  rcases t with _ | ⟨u7, t⟩
  · simp at h
  rcases t with _ | ⟨u8, t⟩
  · simp at h
  rcases t with _ | ⟨u9, t⟩
  · simp at h
  rcases t with _ | ⟨u10, t⟩
  · simp at h
  rcases t with _ | ⟨u11, t⟩
  · simp at h
  rcases t with _ | ⟨u12, t⟩
  · simp at h
  rcases t with _ | ⟨u13, t⟩
  · simp at h
  rcases t with _ | ⟨u14, t⟩
  · simp at h
  rcases t with _ | ⟨u15, t⟩
  · simp at h
  rcases t with _ | ⟨u16, t⟩
  · simp at h
  rcases t with _ | ⟨u17, t⟩
  · simp at h
  rcases t with _ | ⟨u18, t⟩
  · simp at h
  rcases t with _ | ⟨u19, t⟩
  · simp at h
  rcases t with _ | ⟨u20, t⟩
  · simp at h
  rcases t with _ | ⟨u21, t⟩
  · simp at h
  rcases t with _ | ⟨u22, t⟩
  · simp at h
  rcases t with _ | ⟨u23, t⟩
  · simp at h
  rcases t with _ | ⟨u24, t⟩
  · simp at h
  rcases t with _ | ⟨u25, t⟩
  · simp at h
  rcases t with _ | ⟨u26, t⟩
  · simp at h
  rcases t with _ | ⟨u27, t⟩
  · simp at h
  rcases t with _ | ⟨u28, t⟩
  · simp at h
  rcases t with _ | ⟨u29, t⟩
  · simp at h
  rcases t with _ | ⟨u30, t⟩
  · simp at h
  rcases t with _ | ⟨u31, t⟩
  · simp at h
  rcases t with _ | ⟨u32, t⟩
  · simp at h
  rcases t with _ | ⟨u33, t⟩
  · simp at h
  rcases t with _ | ⟨u34, t⟩
  · simp at h
  rcases t with _ | ⟨u35, t⟩
  · simp at h
  rcases t with _ | ⟨u36, t⟩
  · simp at h
  rcases t with _ | ⟨u37, t⟩
  · simp at h
  rcases t with _ | ⟨u38, t⟩
  · simp at h
  rcases t with _ | ⟨u39, t⟩
  · simp at h
  rcases t with _ | ⟨u40, t⟩
  · simp at h
  rcases t with _ | ⟨u41, t⟩
  · simp at h
  rcases t with _ | ⟨u42, t⟩
  · simp at h
  rcases t with _ | ⟨u43, t⟩
  · simp at h
  rcases t with _ | ⟨u44, t⟩
  · simp at h
  rcases t with _ | ⟨u45, t⟩
  · simp at h
  rcases t with _ | ⟨u46, t⟩
  · simp at h
  rcases t with _ | ⟨u47, t⟩
  · simp at h
  rcases t with _ | ⟨u48, t⟩
  · simp at h
  rcases t with _ | ⟨u49, t⟩
  · simp at h
  rcases t with _ | ⟨u50, t⟩
  · simp at h
  rcases t with _ | ⟨u51, t⟩
  · simp at h
  rcases t with _ | ⟨u52, t⟩
  · simp at h
  rcases t with _ | ⟨u53, t⟩
  · simp at h
  rcases t with _ | ⟨u54, t⟩
  · simp at h
  rcases t with _ | ⟨u55, t⟩
  · simp at h
  rcases t with _ | ⟨u56, t⟩
  · simp at h
  rcases t with _ | ⟨u57, t⟩
  · simp at h
  rcases t with _ | ⟨u58, t⟩
  · simp at h
  rcases t with _ | ⟨u59, t⟩
  · simp at h
  rcases t with _ | ⟨u60, t⟩
  · simp at h
  rcases t with _ | ⟨u61, t⟩
  · simp at h
  rcases t with _ | ⟨u62, t⟩
  · simp at h
  rcases t with _ | ⟨u63, t⟩
  · simp at h
  rcases t with _ | ⟨u64, t⟩
  · simp at h
  rcases t with _ | ⟨u65, t⟩
  · simp at h
  rcases t with _ | ⟨u66, t⟩
  · simp at h
  rcases t with _ | ⟨u67, t⟩
  · simp at h
  rcases t with _ | ⟨u68, t⟩
  · simp at h
  rcases t with _ | ⟨u69, t⟩
  · simp at h
  rcases t with _ | ⟨u70, t⟩
  · simp at h
  rcases t with _ | ⟨u71, t⟩
  · simp at h
  rcases t with _ | ⟨u72, t⟩
  · simp at h
  rcases t with _ | ⟨u, t⟩
  · exact ⟨u0, u1, u2, u3, u4, u5, u6, u7, u8, u9, u10, u11, u12, u13, u14, u15, u16, u17, u18, u19, u20, u21, u22, u23, u24, u25, u26, u27, u28, u29, u30, u31, u32, u33, u34, u35, u36, u37, u38, u39, u40, u41, u42, u43, u44, u45, u46, u47, u48, u49, u50, u51, u52, u53, u54, u55, u56, u57, u58, u59, u60, u61, u62, u63, u64, u65, u66, u67, u68, u69, u70, u71, u72, rfl⟩
  · simp at h
end Go.Proofs.YtmmnpnhffgpchaaGreatDoor.Ln

/-
  A line read: what holds at each label, and the walk from the labels wrong, end and quoted on.
-/
namespace Go.Proofs.YtmmnpnhffgpchaaGreatDoor.Ln
open Go.RowKit
set_option linter.unusedVariables false
set_option linter.unusedSimpArgs false
/-- What every jump keeps of the frame. -/
structure Fr (b : Nat) (a : Act) : Prop where
  nod : a.defers = []
  size : a.tmps.size = 73
  ptr : a.tmps.getD 6 undef = .pointer (some ⟨b, 0, none⟩)
/-- The reader at a place. -/
structure At (w : World) (l : List UInt8) (num : Int) (w' : World) (p : Nat) (tv : Value) (ts : List Tk) : Prop where
  rd : Rd w' w.heap.size w.heap.size l num p tv ts
  le : p ≤ l.length
  few : ts.length ≤ p
  bel : Below w.heap.size w w'
def J2 (w : World) (l : List UInt8) (num : Int) (a : Act) (w' : World) : Prop := Fr w.heap.size a ∧ ∃ n p tv ts, At w l num w' p tv ts ∧ l.length < n + p ∧ readF l num = conF num l n p ts
def J3 (w : World) (l : List UInt8) (num : Int) (a : Act) (w' : World) : Prop := Fr w.heap.size a ∧ ∃ p tv ts, At w l num w' p tv ts ∧ ovrF (l.drop p) = false ∧ readF l num = scaF num l p ts
def J4 (w : World) (l : List UInt8) (num : Int) (a : Act) (w' : World) : Prop := Fr w.heap.size a ∧ ∃ p tv ts, At w l num w' p tv ts ∧ p < l.length ∧ readF l num = qtdF num l p ts
def J1 (w : World) (l : List UInt8) (num : Int) (a : Act) (w' : World) : Prop := Fr w.heap.size a ∧ ∃ p tv ts, Rd w' w.heap.size w.heap.size l num p tv ts ∧ Below w.heap.size w w' ∧ readF l num = (ts, 0)
def J0 (w : World) (l : List UInt8) (num : Int) (a : Act) (w' : World) : Prop := a.defers = [] ∧ a.tmps.size = 73 ∧ ∃ e, a.tmps.getD 10 undef = .int .i64 e ∧ readF l num = ([], e) ∧ e ≠ 0 ∧ Below w.heap.size w w'
def JJ (w : World) (l : List UInt8) (num : Int) : Nat → Act → World → Prop
  | 0 => J0 w l num
  | 1 => J1 w l num
  | 2 => J2 w l num
  | 3 => J3 w l num
  | 4 => J4 w l num
  | _ => fun _ _ => False
def placeOf (b : Nat) (w : World) : Nat := (Lib.intOf ((w.cell? ⟨b, 2, none⟩).getD undef)).toNat
def mu (w : World) (l : List UInt8) : Nat → Act → World → Nat
  | 0, _, _ => 0
  | 1, _, _ => 0
  | 4, _, _ => 1
  | 3, _, _ => 2
  | _, _, w' => 3 + (l.length - placeOf w.heap.size w')
/-- What read answers. -/
def RdE (w : World) (l : List UInt8) (num : Int) (e : Ending) (w' : World) : Prop := Below w.heap.size w w' ∧ ∃ v, e = .returned (.tuple #[v, .int .i64 (readF l num).2]) ∧ w'.ownsRow w.heap.size 52 5 v (readF l num).1.length ((readF l num).1.flatMap Tk.row)
/-- A function's scope. -/
def scpOf (f : Func) : Code := match f.body with
  | some (.seq _ (.scope c)) => c
  | _ => .skip
set_option maxHeartbeats 4000000 in
theorem at0 (l : List UInt8) (num : Int) (w : World) (Jx : Nat → Act → World → Prop) (a : Act) (w1 : World) (hj : J0 w l num a w1) : ∃ rest, findLabel (scpOf Tryz.f28) 0 = some rest ∧ rest.wp Tryz.prog (jmps Jx (bodyPost Tryz.prog Tryz.f28 (RdE w l num))) a w1 := by
  refine ⟨_, rfl, ?_⟩
  obtain ⟨h1, h2, e, h3, h4, h5, h6⟩ := hj
  obtain ⟨tm, df⟩ := a
  dsimp only at h1 h2 h3
  subst h1
  obtain ⟨u0, u1, u2, u3, u4, u5, u6, u7, u8, u9, u10, u11, u12, u13, u14, u15, u16, u17, u18, u19, u20, u21, u22, u23, u24, u25, u26, u27, u28, u29, u30, u31, u32, u33, u34, u35, u36, u37, u38, u39, u40, u41, u42, u43, u44, u45, u46, u47, u48, u49, u50, u51, u52, u53, u54, u55, u56, u57, u58, u59, u60, u61, u62, u63, u64, u65, u66, u67, u68, u69, u70, u71, u72, rfl⟩ := frame73 tm h2
  obtain rfl : u10 = .int .i64 e := h3
  clear h2
  have H4 := hide2 h4
  clear h4
  go_wp2
  refine jmps_ret ?_
  refine bodyPost_ret (v := .tuple #[.slice none 0 0, .int .i64 e]) (by simp [results, Tryz.results28, go_sem]) rfl ?_
  exact ⟨h6, _, by rw [H4.out], by rw [H4.out]; exact World.ownsRow_nil _ _ _ _⟩
set_option maxHeartbeats 4000000 in
theorem at1 (l : List UInt8) (num : Int) (w : World) (Jx : Nat → Act → World → Prop) (a : Act) (w1 : World) (hj : J1 w l num a w1) : ∃ rest, findLabel (scpOf Tryz.f28) 1 = some rest ∧ rest.wp Tryz.prog (jmps Jx (bodyPost Tryz.prog Tryz.f28 (RdE w l num))) a w1 := by
  refine ⟨_, rfl, ?_⟩
  obtain ⟨⟨h1, h2, h3⟩, hJ⟩ := hj
  obtain ⟨tm, df⟩ := a
  dsimp only at h1 h2 h3
  subst h1
  obtain ⟨u0, u1, u2, u3, u4, u5, u6, u7, u8, u9, u10, u11, u12, u13, u14, u15, u16, u17, u18, u19, u20, u21, u22, u23, u24, u25, u26, u27, u28, u29, u30, u31, u32, u33, u34, u35, u36, u37, u38, u39, u40, u41, u42, u43, u44, u45, u46, u47, u48, u49, u50, u51, u52, u53, u54, u55, u56, u57, u58, u59, u60, u61, u62, u63, u64, u65, u66, u67, u68, u69, u70, u71, u72, rfl⟩ := frame73 tm h2
  obtain rfl : u6 = .pointer (some ⟨w.heap.size, 0, none⟩) := h3
  clear h2
  obtain ⟨p, tv, ts, hR, hb, hE⟩ := hJ
  have c3 := hR.c3
  have HR := hide2 hR
  have HE := hide2 hE
  clear hR hE
  go_wp2
  refine jmps_ret ?_
  refine bodyPost_ret (v := .tuple #[tv, .int .i64 0]) (by simp [results, Tryz.results28, go_sem]) rfl ?_
  exact ⟨hb, _, by rw [HE.out], by rw [HE.out]; exact HR.out.own⟩
/-- Where a text begins with a byte. -/
theorem first_of {l : List UInt8} {p : Nat} {c : UInt8} {r : List UInt8} (h : l.drop p = c :: r) : l[p]? = some c ∧ p < l.length := by
  have : (l.drop p)[0]? = some c := by rw [h]; rfl
  rw [List.getElem?_drop] at this
  exact ⟨this, ix_lt this⟩
end Go.Proofs.YtmmnpnhffgpchaaGreatDoor.Ln
