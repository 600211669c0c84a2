/-
  A line's tokens, as the program reads them: what it says, and the reader's methods over the reader.
-/
import Derived.Test.YtjmgngocpokpgaaDoorPln
import Derived.Test.YtjmgngocpokpgaaDoorTake
import Derived.Test.YtjmgngocpokpgaaDoorScp
namespace Go.Proofs.YtjmgngocpokpgaaDoor
open Go.RowKit
set_option linter.unusedVariables false
set_option linter.unusedSimpArgs false
def qtdF (num : Int) (l : List UInt8) (p : Nat) (ts : List Tk) : List Tk × Int := match l.drop p with
  | [] => ([], 0)
  | c :: r => match unqF (c :: r) with
    | none => ([], 82)
    | some (t, k) => if nulF ((c :: r).drop k) = true then (ts ++ [⟨4, num, p, t, quoF c.toNat⟩], 0) else ([], 82)
def scaF (num : Int) (l : List UInt8) (p : Nat) (ts : List Tk) : List Tk × Int := match l.drop p with
  | [] => ([], 0)
  | c :: r => if quoF c.toNat = true then qtdF num l p ts else match plnF (c :: r) with
    | [] => ([], 83)
    | d :: t => (ts ++ [⟨4, num, p, d :: t, quoF c.toNat⟩], 0)
def conF (num : Int) (l : List UInt8) : Nat → Nat → List Tk → List Tk × Int
  | 0, _, _ => ([], 0)
  | n + 1, p, ts => match l.drop p with
    | [] => (ts, 0)
    | c :: r => if ovrF (c :: r) = true then (ts, 0) else if itmF (c :: r) = true then conF num l n (skpF l (p + 1)) (ts ++ [⟨2, num, p, [], quoF c.toNat⟩])
      else match keyF (c :: r) with
        | none => scaF num l p ts
        | some (t, k) => if ovrF (l.drop (skpF l (p + k))) = true then (ts ++ [⟨3, num, p, t, quoF c.toNat⟩], 0) else scaF num l (skpF l (p + k)) (ts ++ [⟨3, num, p, t, quoF c.toNat⟩])
/-- A line's tokens, or its error. -/
def readF (l : List UInt8) (num : Int) : List Tk × Int := if strF l ≠ 0 then ([], strF l) else if docF l = true then ([⟨1, num, 0, [], quoF (((l[0]?).getD 0).toNat)⟩], 0) else conF num l (l.length + 1) (skpF l 0) []
theorem skpF_ge (l : List UInt8) (p : Nat) (h : p ≤ l.length) : p ≤ skpF l p := by
  have := past_len (l.drop p)
  rw [List.length_drop] at this
  unfold skpF
  omega
theorem Rd.below {w w' : World} {base b : Nat} {l : List UInt8} {num : Int} {p : Nat} {tv : Value} {ts : List Tk} (h : Rd w base b l num p tv ts) (hb : Below w.heap.size w w') : Rd w' base b l num p tv ts :=
  ⟨(hb.block b (Array.getElem?_eq_some_iff.1 h.blk).1).trans h.blk, own_blk h.own (fun k hk => hb.block k (h.own.lt k hk).2), h.low⟩
theorem Rd.c0 {w : World} {base b : Nat} {l : List UInt8} {num : Int} {p : Nat} {tv : Value} {ts : List Tk} (h : Rd w base b l num p tv ts) : w.cell? ⟨b, 0, none⟩ = some (.string ⟨l.toArray⟩) := cell_of h.blk 0 _ rfl
theorem Rd.c2 {w : World} {base b : Nat} {l : List UInt8} {num : Int} {p : Nat} {tv : Value} {ts : List Tk} (h : Rd w base b l num p tv ts) : w.cell? ⟨b, 2, none⟩ = some (.int .i64 p) := cell_of h.blk 2 _ rfl
theorem Rd.c3 {w : World} {base b : Nat} {l : List UInt8} {num : Int} {p : Nat} {tv : Value} {ts : List Tk} (h : Rd w base b l num p tv ts) : w.cell? ⟨b, 3, none⟩ = some tv := cell_of h.blk 3 _ rfl
theorem over_rd {l : List UInt8} {num : Int} {p b base : Nat} {tv : Value} {ts : List Tk} {w : World} (hR : Rd w base b l num p tv ts) (hs : l.length ≤ 2 ^ 30) (ha : p ≤ l.length) (v : Bool) (hv : ovrF (l.drop p) = v) :
    Calls Tryd.prog 41 #[.pointer (some ⟨b, 0, none⟩)] w fun e w' => e = .returned (.bool v) ∧ Rd w' base b l num p tv ts ∧ Below w.heap.size w w' := by
  refine (over_any l p b w (by omega) ha hR.c0 hR.c2).mono ?_
  rintro e w' ⟨rfl, q, rfl⟩
  exact ⟨by rw [hv], rd_drew hR q, below_drewN (Below.refl _ _) q⟩
theorem rest_rd {l : List UInt8} {num : Int} {p b base : Nat} {tv : Value} {ts : List Tk} {w : World} (hR : Rd w base b l num p tv ts) (hs : l.length ≤ 2 ^ 30) (ha : p ≤ l.length) (d : List UInt8) (hd : l.drop p = d) :
    Calls Tryd.prog 43 #[.pointer (some ⟨b, 0, none⟩)] w fun e w' => e = .returned (.string ⟨d.toArray⟩) ∧ Rd w' base b l num p tv ts ∧ Below w.heap.size w w' := by
  refine (rest_at l d p b w (by omega) ha hd hR.c0 hR.c2).mono ?_
  rintro e w' ⟨rfl, q, rfl⟩
  exact ⟨rfl, rd_drew hR q, below_drewN (Below.refl _ _) q⟩
theorem skip_rd {l : List UInt8} {num : Int} {p b base : Nat} {tv : Value} {ts : List Tk} {w : World} (hR : Rd w base b l num p tv ts) (hs : l.length ≤ 2 ^ 30) (ha : p ≤ l.length) :
    Calls Tryd.prog 40 #[.pointer (some ⟨b, 0, none⟩)] w fun e w' => e = .returned (.tuple #[]) ∧ Rd w' base b l num (skpF l p) tv ts ∧ Below base w w' := by
  refine (skip_any l num p b tv w (by omega) ha hR.blk).mono ?_
  rintro e w' ⟨rfl, q, rfl⟩
  exact ⟨rfl, rd_at (rd_drew hR q) _, (below_drewN (Below.refl _ _) q).setCell hR.low _⟩
/-- A frame of 73 slots. -/
theorem frame73 (t : Array Value) (h : t.size = 73) : ∃ u0 u1 u2 u3 u4 u5 u6 u7 u8 u9 u10 u11 u12 u13 u14 u15 u16 u17 u18 u19 u20 u21 u22 u23 u24 u25 u26 u27 u28 u29 u30 u31 u32 u33 u34 u35 u36 u37 u38 u39 u40 u41 u42 u43 u44 u45 u46 u47 u48 u49 u50 u51 u52 u53 u54 u55 u56 u57 u58 u59 u60 u61 u62 u63 u64 u65 u66 u67 u68 u69 u70 u71 u72 : Value, t = #[u0, u1, u2, u3, u4, u5, u6, u7, u8, u9, u10, u11, u12, u13, u14, u15, u16, u17, u18, u19, u20, u21, u22, u23, u24, u25, u26, u27, u28, u29, u30, u31, u32, u33, u34, u35, u36, u37, u38, u39, u40, u41, u42, u43, u44, u45, u46, u47, u48, u49, u50, u51, u52, u53, u54, u55, u56, u57, u58, u59, u60, u61, u62, u63, u64, u65, u66, u67, u68, u69, u70, u71, u72] := by
  obtain ⟨t⟩ := t
  simp only [List.size_toArray] at h
  rcases t with _ | ⟨u0, t⟩
  · simp at h
  rcases t with _ | ⟨u1, t⟩
  · simp at h
  rcases t with _ | ⟨u2, t⟩
  · simp at h
  rcases t with _ | ⟨u3, t⟩
  · simp at h
  rcases t with _ | ⟨u4, t⟩
  · simp at h
  rcases t with _ | ⟨u5, t⟩
  · simp at h
  rcases t with _ | ⟨u6, t⟩
  · simp at h
  rcases t with _ | ⟨u7, t⟩
  · simp at h
  rcases t with _ | ⟨u8, t⟩
  · simp at h
  rcases t with _ | ⟨u9, t⟩
  · simp at h
  rcases t with _ | ⟨u10, t⟩
  · simp at h
  rcases t with _ | ⟨u11, t⟩
  · simp at h
  rcases t with _ | ⟨u12, t⟩
  · simp at h
  rcases t with _ | ⟨u13, t⟩
  · simp at h
  rcases t with _ | ⟨u14, t⟩
  · simp at h
  rcases t with _ | ⟨u15, t⟩
  · simp at h
  rcases t with _ | ⟨u16, t⟩
  · simp at h
  rcases t with _ | ⟨u17, t⟩
  · simp at h
  rcases t with _ | ⟨u18, t⟩
  · simp at h
  rcases t with _ | ⟨u19, t⟩
  · simp at h
  rcases t with _ | ⟨u20, t⟩
  · simp at h
  rcases t with _ | ⟨u21, t⟩
  · simp at h
  rcases t with _ | ⟨u22, t⟩
  · simp at h
  rcases t with _ | ⟨u23, t⟩
  · simp at h
  rcases t with _ | ⟨u24, t⟩
  · simp at h
  rcases t with _ | ⟨u25, t⟩
  · simp at h
  rcases t with _ | ⟨u26, t⟩
  · simp at h
  rcases t with _ | ⟨u27, t⟩
  · simp at h
  rcases t with _ | ⟨u28, t⟩
  · simp at h
  rcases t with _ | ⟨u29, t⟩
  · simp at h
  rcases t with _ | ⟨u30, t⟩
  · simp at h
  rcases t with _ | ⟨u31, t⟩
  · simp at h
  rcases t with _ | ⟨u32, t⟩
  · simp at h
  rcases t with _ | ⟨u33, t⟩
  · simp at h
  rcases t with _ | ⟨u34, t⟩
  · simp at h
  rcases t with _ | ⟨u35, t⟩
  · simp at h
  rcases t with _ | ⟨u36, t⟩
  · simp at h
  rcases t with _ | ⟨u37, t⟩
  · simp at h
  rcases t with _ | ⟨u38, t⟩
  · simp at h
  rcases t with _ | ⟨u39, t⟩
  · simp at h
  rcases t with _ | ⟨u40, t⟩
  · simp at h
  rcases t with _ | ⟨u41, t⟩
  · simp at h
  rcases t with _ | ⟨u42, t⟩
  · simp at h
  rcases t with _ | ⟨u43, t⟩
  · simp at h
  rcases t with _ | ⟨u44, t⟩
  · simp at h
  rcases t with _ | ⟨u45, t⟩
  · simp at h
  rcases t with _ | ⟨u46, t⟩
  · simp at h
  rcases t with _ | ⟨u47, t⟩
  · simp at h
  rcases t with _ | ⟨u48, t⟩
  · simp at h
  rcases t with _ | ⟨u49, t⟩
  · simp at h
  rcases t with _ | ⟨u50, t⟩
  · simp at h
  rcases t with _ | ⟨u51, t⟩
  · simp at h
  rcases t with _ | ⟨u52, t⟩
  · simp at h
  rcases t with _ | ⟨u53, t⟩
  · simp at h
  rcases t with _ | ⟨u54, t⟩
  · simp at h
  rcases t with _ | ⟨u55, t⟩
  · simp at h
  rcases t with _ | ⟨u56, t⟩
  · simp at h
  rcases t with _ | ⟨u57, t⟩
  · simp at h
  rcases t with _ | ⟨u58, t⟩
  · simp at h
  rcases t with _ | ⟨u59, t⟩
  · simp at h
  rcases t with _ | ⟨u60, t⟩
  · simp at h
  rcases t with _ | ⟨u61, t⟩
  · simp at h
  rcases t with _ | ⟨u62, t⟩
  · simp at h
  rcases t with _ | ⟨u63, t⟩
  · simp at h
  rcases t with _ | ⟨u64, t⟩
  · simp at h
  rcases t with _ | ⟨u65, t⟩
  · simp at h
  rcases t with _ | ⟨u66, t⟩
  · simp at h
  rcases t with _ | ⟨u67, t⟩
  · simp at h
  rcases t with _ | ⟨u68, t⟩
  · simp at h
  rcases t with _ | ⟨u69, t⟩
  · simp at h
  rcases t with _ | ⟨u70, t⟩
  · simp at h
  rcases t with _ | ⟨u71, t⟩
  · simp at h
  rcases t with _ | ⟨u72, t⟩
  · simp at h
  rcases t with _ | ⟨u, t⟩
  · exact ⟨u0, u1, u2, u3, u4, u5, u6, u7, u8, u9, u10, u11, u12, u13, u14, u15, u16, u17, u18, u19, u20, u21, u22, u23, u24, u25, u26, u27, u28, u29, u30, u31, u32, u33, u34, u35, u36, u37, u38, u39, u40, u41, u42, u43, u44, u45, u46, u47, u48, u49, u50, u51, u52, u53, u54, u55, u56, u57, u58, u59, u60, u61, u62, u63, u64, u65, u66, u67, u68, u69, u70, u71, u72, rfl⟩
  · simp at h
end Go.Proofs.YtjmgngocpokpgaaDoor
