/-
  Decode: the program's.
-/
import Derived.Test.YteeclghhoioapaaDoorRd0
import Derived.Test.YteeclghhoioapaaDoorRd1
import Derived.Test.YteeclghhoioapaaDoorRd2
import Derived.Test.YteeclghhoioapaaDoorRd3
import Derived.Test.YteeclghhoioapaaDoorRd4
import Derived.Test.YteeclghhoioapaaDoorRd5
import Derived.Test.YteeclghhoioapaaDoorRNext
namespace Go.Proofs.YteeclghhoioapaaDoor
open Go.RowKit
set_option linter.unusedVariables false
set_option linter.unusedSimpArgs false
set_option maxRecDepth 100000
theorem read_any (a : Option Addr) (n cap : Nat) (p : List Int) (w : World) (h : Bs w a n cap p) (ha : ∀ x, a = some x → x.spot = none ∧ x.block < w.heap.size) (hs : n ≤ 1048576) :
    Calls Tryd.prog 35 #[.slice a n cap] w fun e w' => RdE w p e w' := by
  by_cases k1 : (Cur.nm 1 ⟨p, false⟩).1 = 1
  · exact read1 a n cap p w h ha hs k1
  by_cases k2 : (Cur.nm 1 ⟨p, false⟩).1 = 2
  · exact read2 a n cap p w h ha hs k2
  by_cases k3 : (Cur.nm 1 ⟨p, false⟩).1 = 3
  · exact read3 a n cap p w h ha hs k3
  by_cases k4 : (Cur.nm 1 ⟨p, false⟩).1 = 4
  · exact read4 a n cap p w h ha hs k4
  by_cases k5 : (Cur.nm 1 ⟨p, false⟩).1 = 5
  · exact read5 a n cap p w h ha hs k5
  · refine read0 a n cap p w h ha hs fun j h1 h2 => ?_
    rcases (by omega : j = 1 ∨ j = 2 ∨ j = 3 ∨ j = 4 ∨ j = 5) with rfl | rfl | rfl | rfl | rfl
    · exact k1
    · exact k2
    · exact k3
    · exact k4
    · exact k5
/-- How long the payload is said to be. -/
def lenM (zs : List Int) : Nat := (val (zs.take 4)).toNat
/-- The payload, if the bytes begin with a whole frame. -/
def payB (zs : List Int) : List Int := (zs.drop 8).take (lenM zs)
def isFr (zs : List Int) : Bool := frame (payB zs) == zs.take (8 + lenM zs)
/-- What Decode answers: the message, how many bytes, the error. -/
def decM (zs : List Int) : Ms × Int × Int :=
  if zs.length < 4 then (zeroM, 0, 10)
  else if 131072 < lenM zs then (zeroM, 0, 190)
  else if zs.length < 8 + lenM zs then (zeroM, 0, 10)
  else if isFr zs = true then
    match readM (payB zs) with
    | some m => (m, 8 + lenM zs, 0)
    | none => (zeroM, 0, 190)
  else (zeroM, 0, 190)
theorem four_val (zs : List Int) (h : 4 ≤ zs.length) : val (zs.take 4) = zs.getD 0 0 * 16777216 + zs.getD 1 0 * 65536 + zs.getD 2 0 * 256 + zs.getD 3 0 := by
  match zs, h with
  | a :: b :: c :: d :: r, _ => simp [val]; omega
theorem lenM_val (zs : List Int) (hz : Octets zs) : (lenM zs : Int) = val (zs.take 4) := by
  have := val_bd _ (hz.take 4)
  unfold lenM; omega
theorem lenM_take (zs : List Int) (k : Nat) (h : 4 ≤ k) : lenM (zs.take k) = lenM zs := by
  unfold lenM; rw [List.take_take, Nat.min_eq_left h]
theorem isFr_iff (zs : List Int) (hz : Octets zs) (h1 : lenM zs ≤ 131072) (h2 : 8 + lenM zs ≤ zs.length) : isFr zs = true ↔ IsRec (zs.take (8 + lenM zs)) (lenM zs) := by
  have hL := lenM_val zs hz
  obtain ⟨L, hl⟩ : ∃ L, lenM zs = L := ⟨_, rfl⟩
  have hlen : (zs.take (8 + L)).length = 8 + L := by rw [List.length_take]; omega
  have g : ∀ i, i < 8 → (zs.take (8 + L)).getD i 0 = zs.getD i 0 := fun i hi => by
    have : i < 8 + L := by omega
    simp [List.getD, this]
  have hd : ((zs.take (8 + L)).drop 8).take L = (zs.drop 8).take L := by
    rw [List.drop_take, Nat.add_sub_cancel_left, List.take_take, Nat.min_self]
  have ht : (zs.take (8 + L)).take (8 + L) = zs.take (8 + L) := by rw [List.take_take, Nat.min_self]
  have := rec_iff (zs.take (8 + L)) L (hz.take _) (by omega) (by rw [g 0 (by omega), g 1 (by omega), g 2 (by omega), g 3 (by omega), ← four_val zs (by omega), ← hL, hl]) (by omega) (by omega)
  rw [hd, ht] at this
  unfold isFr payB
  rw [hl, beq_iff_eq]
  exact this
theorem rec_len (zs : List Int) (N : Nat) (h4 : 4 ≤ zs.length) (hz : Octets zs) (h : IsRec zs N) : N = lenM zs := by
  have h1 := h.2.1
  have := four_val zs h4
  have hL := lenM_val zs hz
  omega
/-- What a decoding that goes wrong holds on to. -/
structure Dh (w0 w : World) : Prop where
  rx : w.heap[w0.heap.size]? = some (.cells (mcs zeroM).toArray 29 (0, 0))
  mx : w.heap[w0.heap.size + 1]? = some (.cells (mcs zeroM).toArray 29 (0, 0))
  bel : Below w0.heap.size w0 w
theorem Dh.start (w : World) : Dh w ((w.alloc (.cells (mcs zeroM).toArray 29)).alloc (.cells (mcs zeroM).toArray 29)) :=
  ⟨(heap_alloc_old _ _ (by simp)).trans (heap_alloc_new _ _), by have := heap_alloc_new (w.alloc (.cells (mcs zeroM).toArray 29)) (.cells (mcs zeroM).toArray 29); simpa using this, ((Below.refl w.heap.size w).alloc (Nat.le_refl _) _).alloc (by simp) _⟩
theorem Dh.below {w0 w w' : World} (h : Dh w0 w) (hb : Below w.heap.size w w') : Dh w0 w' :=
  ⟨(hb.block _ (Array.getElem?_eq_some_iff.1 h.rx).1).trans h.rx, (hb.block _ (Array.getElem?_eq_some_iff.1 h.mx).1).trans h.mx, h.bel.trans (hb.mono h.bel.size)⟩
/-- What Decode leaves. -/
def DecE (w : World) (zs : List Int) (e : Ending) (w' : World) : Prop := e = .returned (.tuple #[mv (decM zs).1, .int .i64 (decM zs).2.1, .int .i64 (decM zs).2.2]) ∧ Below w.heap.size w w'
theorem Bs.old {w W : World} {a : Option Addr} {n cap : Nat} {zs : List Int} (h : Bs w a n cap zs) (hb : Below w.heap.size w W) : Bs W a n cap zs := h.below hb
end Go.Proofs.YteeclghhoioapaaDoor
