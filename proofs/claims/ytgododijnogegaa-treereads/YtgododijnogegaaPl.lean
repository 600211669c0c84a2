/-
  The document's block: its loop.
-/
import Derived.Test.YtgododijnogegaaPk
namespace Go.Proofs.Ytgododijnogegaa
open Go.RowKit
set_option linter.unusedVariables false
set_option linter.unusedSimpArgs false
set_option maxRecDepth 100000
theorem valM_le {B : Nat → Nat → Rr} {dead : Bool} {L : List Tk} {u : Tk} {q made : Nat} {t : Tr} {q2 m2 : Nat} (hB : ∀ t q2 m2, B q made = .ok t q2 m2 → q ≤ q2) (h : valM B dead L u q made = .ok t q2 m2) : q ≤ q2 := by
  unfold valM at h
  split at h
  · exact hB _ _ _ h
  · split at h
    · cases h
    · cases h; exact Nat.le_refl _
theorem lpM_le {V : Tk → Nat → Nat → Rr} {L : List Tk} {t0 : Tk} (hV : ∀ u q made t q2 m2, V u q made = .ok t q2 m2 → q ≤ q2) : ∀ (k : Nat) (acc : List Tr) (q made : Nat) (ts : List Tr) (q2 m2 : Nat), lpM V L t0 k acc q made = .ok ts q2 m2 → q ≤ q2
  | 0, acc, q, made, ts, q2, m2, h => by rw [lpM] at h; cases h; exact Nat.le_refl _
  | k + 1, acc, q, made, ts, q2, m2, h => by
    rw [lpM] at h
    rcases hu : L[q]? with _ | u
    · rw [hu] at h; cases h; exact Nat.le_refl _
    · rw [hu] at h
      dsimp only at h
      split at h
      · split at h
        · cases h
        · rcases hv : V u (q + 1) made with ⟨v, q', m'⟩ | ⟨l, e, q', m'⟩
          · rw [hv] at h
            have h1 := hV _ _ _ _ _ _ hv
            have h2 := lpM_le hV k _ q' m' ts q2 m2 h
            omega
          · rw [hv] at h; cases h
      · cases h; exact Nat.le_refl _
theorem blkM_le {L : List Tk} : ∀ (f q made : Nat) (t : Tr) (q2 m2 : Nat), blkM L f q made = .ok t q2 m2 → q ≤ q2
  | 0, q, made, t, q2, m2, h => by
    rw [blkM] at h
    rcases hu : L[q]? with _ | u
    · rw [hu] at h; cases h
    · rw [hu] at h; cases h
  | f + 1, q, made, t, q2, m2, h => by
    rw [blkM] at h
    rcases hu : L[q]? with _ | u
    · rw [hu] at h; cases h
    · rw [hu] at h
      dsimp only at h
      split at h
      · cases h
      · split at h
        · cases h; omega
        · rcases hl : lpM (valM (blkM L f) (decide (f = 0)) L) L u (L.length - q) [] q (made + 1) with ⟨ts, q', m'⟩ | ⟨l, e, q', m'⟩
          · rw [hl] at h
            cases h
            exact lpM_le (fun u q made t q2 m2 hv => valM_le (fun t q2 m2 hb => blkM_le f q made t q2 m2 hb) hv) _ _ _ _ _ _ _ hl
          · rw [hl] at h; cases h
theorem blkM_many {L : List Tk} {f q made : Nat} {t : Tk} (ht : L[q]? = some t) (h : ¬ made = 4096) (hk : ¬ t.kd = 4) : blkM L (f + 1) q made = (match lpM (valM (blkM L f) (decide (f = 0)) L) L t (L.length - q) [] q (made + 1) with | .ok ts q' made' => .ok (.node (if t.kd = 2 then 3 else 2) ByteArray.empty ByteArray.empty false t.line ts) q' made' | .bad l e q' made' => .bad l e q' made') := by
  rw [blkM, ht]
  dsimp only
  rw [if_neg h, if_neg hk]
  rcases lpM (valM (blkM L f) (decide (f = 0)) L) L t (L.length - q) [] q (made + 1) with ⟨ts, q', m'⟩ | ⟨l, e, q', m'⟩ <;> rfl
/-- the next token's number, as memory has it -/
def qOf (rp : Nat) (w : World) : Nat := match w.cell? ⟨rp, 1, none⟩ with | some (.int _ z) => z.toNat | _ => 0
theorem Rg.qOf {w : World} {rp : Nat} {a : Option Addr} {n cap : Nat} {L : List Tk} {q : Nat} {line err : Int} {made : Nat} (h : Rg w rp a n cap L q line err made) : qOf rp w = q := by
  unfold Go.Proofs.Ytgododijnogegaa.qOf
  rw [h.cells.2.1]
  simp
/-- it begins: a tree without kids -/
theorem Bw.start {w W3 X4 : World} {rp : Nat} {tk : Tk} {kx : Int} (hrp : rp < w.heap.size) (hb : But rp w X4) (hk : X4.heap[w.heap.size]? = some (.cells tk.row.toArray 53 (0, 0))) (hs : X4.heap.size = w.heap.size + 1) : Bw w (X4.alloc (.cells #[.int .i64 kx, .string ⟨#[]⟩, .string ⟨#[]⟩, .bool false, .int .i64 tk.line, .slice none 0 0] 68 (0, 0))) rp tk kx (.slice none 0 0) [] [] := by
  have hbl : Below X4.heap.size X4 (X4.alloc (.cells #[.int .i64 kx, .string ⟨#[]⟩, .string ⟨#[]⟩, .bool false, .int .i64 tk.line, .slice none 0 0] 68 (0, 0))) := (Below.refl _ _).alloc (Nat.le_refl _) _
  refine ⟨hb.trans (But.of_below hbl), (hbl.block _ (by omega)).trans hk, ?_, ⟨by simp [ptrs], .inl ⟨rfl, rfl⟩⟩, (fun r h => by cases h), by rw [TrsIn]⟩
  rw [← hs]
  exact Go.heap_alloc_new _ _
end Go.Proofs.Ytgododijnogegaa
