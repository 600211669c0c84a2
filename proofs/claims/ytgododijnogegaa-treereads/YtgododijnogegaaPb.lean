/-
  The document's block: what its loop goes by.
-/
import Derived.Test.YtgododijnogegaaPv2
import Derived.Test.YtgododijnogegaaGr2
namespace Go.Proofs.Ytgododijnogegaa
open Go.RowKit
set_option linter.unusedVariables false
set_option linter.unusedSimpArgs false
set_option maxRecDepth 100000
/-- value, whole -/
theorem value_any (w : World) (rp : Nat) (a : Option Addr) (n cap : Nat) (L : List Tk) (u : Tk) (q made d f : Nat) (hd : d + f = 17) (B : Nat → Nat → Rr) (h : Rg w rp a n cap L q 0 0 made)
    (ih : ∀ (w : World) (q made : Nat), Rg w rp a n cap L q 0 0 made → q < n → Calls Try.prog 38 #[.pointer (some ⟨rp, 0, none⟩), .int .i64 d] w (RrE w rp a n cap L (B q made))) :
    Calls Try.prog 48 #[.pointer (some ⟨rp, 0, none⟩), .agg u.row.toArray, .int .i64 d] w (RrE w rp a n cap L (valM B (decide (f = 0)) L u q made)) := by
  rcases ht : L[q]? with _ | t
  · have h1 := List.getElem?_eq_none_iff.1 ht
    obtain rfl : q = n := by have := h.q; have := h.len; omega
    exact value_end w rp a q cap L u made d f hd B h
  · have hq := (List.getElem?_eq_some_iff.1 ht).1
    exact value_at w rp a n cap L u t q made d f hd B h ht (fun w' h' => ih w' q made h' (by have := h.len; omega))
/-- a tree's root under a key -/
theorem TrIn.rekey {w : World} {F : Nat → Prop} {t : Tr} {p : Nat} (h : TrIn w F t p) (key : ByteArray) (hk : key.size ≤ maxLen) : w.frozen? ⟨p, 1, none⟩ = false ∧ TrIn (w.setCell ⟨p, 1, none⟩ (.string key)) F (t.withKey key) p := by
  obtain ⟨kd, key0, tx, quo, ln, kids⟩ := t
  rw [TrIn] at h
  obtain ⟨h1, h2, v, ps, h3, h4, h5, h6⟩ := h
  have ho : ∀ k, k ≠ p → (w.setCell ⟨p, 1, none⟩ (.string key)).heap[k]? = w.heap[k]? := fun k hk => Below.heap_setCell _ _ _ _ hk
  refine ⟨by simp [World.frozen?, h3], ?_⟩
  rw [Tr.withKey, TrIn]
  refine ⟨h1, hk, v, ps, ?_, h4, own_block h5 (fun k hk => ho k ?_), TrsIn.turn (fun k hk => hk) (fun k hk => ho k hk.2) kids ps h6⟩
  · rw [heap_setCell_same w p 1 _ 68 _ h3]; rfl
  · rintro rfl
    obtain ⟨cur, hc⟩ := own_cells h5 k hk
    rw [hc] at h3
    cases h3
theorem withKey_key (t : Tr) (key : ByteArray) : (t.withKey key).key = key := by cases t; rfl
/-- one more entry -/
theorem lpM_step {V : Tk → Nat → Nat → Rr} {L : List Tk} {t0 u : Tk} {k q made q' made' : Nat} {acc : List Tr} {v : Tr} (hu : L[q]? = some u) (h1 : u.kd = t0.kd) (h2 : u.col = t0.col) (h3 : ¬ (u.kd = 3 ∧ ∃ x ∈ acc, x.key = u.tx)) (hv : V u (q + 1) made = .ok v q' made') :
    lpM V L t0 (k + 1) acc q made = lpM V L t0 k (acc ++ [v.withKey (if u.kd = 3 then u.tx else ByteArray.empty)]) q' made' := by
  rw [lpM, hu]
  dsimp only
  rw [if_pos ⟨h1, h2⟩, if_neg h3, hv]
theorem lpM_bad {V : Tk → Nat → Nat → Rr} {L : List Tk} {t0 u : Tk} {k q made q' made' : Nat} {l e : Int} {acc : List Tr} (hu : L[q]? = some u) (h1 : u.kd = t0.kd) (h2 : u.col = t0.col) (h3 : ¬ (u.kd = 3 ∧ ∃ x ∈ acc, x.key = u.tx)) (hv : V u (q + 1) made = .bad l e q' made') :
    lpM V L t0 (k + 1) acc q made = .bad l e q' made' := by
  rw [lpM, hu]
  dsimp only
  rw [if_pos ⟨h1, h2⟩, if_neg h3, hv]
theorem lpM_twice {V : Tk → Nat → Nat → Rr} {L : List Tk} {t0 u : Tk} {k q made : Nat} {acc : List Tr} (hu : L[q]? = some u) (h1 : u.kd = t0.kd) (h2 : u.col = t0.col) (h3 : u.kd = 3 ∧ ∃ x ∈ acc, x.key = u.tx) :
    lpM V L t0 (k + 1) acc q made = .bad u.line 91 q made := by
  rw [lpM, hu]
  dsimp only
  rw [if_pos ⟨h1, h2⟩, if_pos h3]
theorem lpM_end {V : Tk → Nat → Nat → Rr} {L : List Tk} {t0 : Tk} {k q made : Nat} {acc : List Tr} (h : L[q]? = none ∨ ∃ u, L[q]? = some u ∧ ¬ (u.kd = t0.kd ∧ u.col = t0.col)) : lpM V L t0 k acc q made = .ok acc q made := by
  cases k with
  | zero => rfl
  | succ k =>
    rw [lpM]
    rcases h with h | ⟨u, h, hne⟩
    · rw [h]
    · rw [h]
      dsimp only
      rw [if_neg hne]
/-- the tree under way: its kids so far -/
structure Bw (w wr : World) (rp : Nat) (tk : Tk) (kx : Int) (v : Value) (ts : List Tr) (ps : List Nat) : Prop where
  bel : But rp w wr
  n : wr.heap[w.heap.size]? = some (.cells tk.row.toArray 53 (0, 0))
  t : wr.heap[w.heap.size + 1]? = some (.cells #[.int .i64 kx, .string ⟨#[]⟩, .string ⟨#[]⟩, .bool false, .int .i64 tk.line, v] 68 (0, 0))
  own : wr.ownsRow 0 58 1 v ts.length (ptrs ps)
  far : ∀ r, v.ownBlock = some r → w.heap.size + 1 < r
  kids : TrsIn wr (fun k => w.heap.size + 1 < k ∧ k < wr.heap.size ∧ v.ownBlock ≠ some k) ts ps
/-- behind a kid's call -/
theorem Bw.call {w wr w' : World} {rp : Nat} {tk : Tk} {kx : Int} {v : Value} {ts : List Tr} {ps : List Nat} (h : Bw w wr rp tk kx v ts ps) (hrp : rp < w.heap.size) (hb : But rp wr w') : Bw w w' rp tk kx v ts ps := by
  have hs : ∀ {k : Nat} {x : Obj}, k ≠ rp → wr.heap[k]? = some x → w'.heap[k]? = some x := fun {k x} hne hk => (hb.block k (Array.getElem?_eq_some_iff.1 hk).1 hne).trans hk
  refine ⟨h.bel.trans hb, hs (by omega) h.n, hs (by omega) h.t, own_block h.own (fun k hk => hb.block k (h.own.lt k hk).2 (by have := h.far k hk; omega)), h.far, ?_⟩
  exact TrsIn.turn (fun k hk => ⟨hk.1, Nat.lt_of_lt_of_le hk.2.1 hb.size, hk.2.2⟩) (fun k hk => hb.block k hk.2.1 (by omega)) ts ps h.kids
/-- a kid more: appended, and stored -/
theorem Bw.more {w wr w' : World} {rp : Nat} {tk : Tk} {kx : Int} {v v' : Value} {ts : List Tr} {ps : List Nat} {t : Tr} {p : Nat} {lo : Nat} (h : Bw w wr rp tk kx v ts ps) (ht : TrIn wr (fun k => lo ≤ k ∧ k < wr.heap.size) t p) (hlo : w.heap.size + 1 < lo) (hlo2 : ∀ r, v.ownBlock = some r → r < lo)
    (hown : w'.ownsRow 0 58 1 v' (ts.length + 1) (ptrs ps ++ [.pointer (some ⟨p, 0, none⟩)])) (hsz : wr.heap.size ≤ w'.heap.size) (hos : w'.os = wr.os ∧ w'.tape = wr.tape ∧ w'.output = wr.output) (hblk : ∀ k, k < wr.heap.size → v.ownBlock ≠ some k → w'.heap[k]? = wr.heap[k]?) (hv' : v'.ownBlock = v.ownBlock ∨ ∀ r, v'.ownBlock = some r → wr.heap.size ≤ r) :
    Bw w (w'.setCell ⟨w.heap.size + 1, 5, none⟩ v') rp tk kx v' (ts ++ [t]) (ps ++ [p]) := by
  have hfar' : ∀ r, v'.ownBlock = some r → w.heap.size + 1 < r := by
    intro r hr
    rcases hv' with e | e
    · exact h.far r (e ▸ hr)
    · have := e r hr
      have := (Array.getElem?_eq_some_iff.1 h.t).1
      omega
  have ht1 : w.heap.size + 1 < wr.heap.size := (Array.getElem?_eq_some_iff.1 h.t).1
  have hn : ∀ k, k ≤ w.heap.size + 1 → w'.heap[k]? = wr.heap[k]? := fun k hk => hblk k (by omega) (fun e => by have := h.far k e; omega)
  have ho : ∀ k, k ≠ w.heap.size + 1 → (w'.setCell ⟨w.heap.size + 1, 5, none⟩ v').heap[k]? = w'.heap[k]? := fun k hk => Below.heap_setCell _ _ _ _ hk
  refine ⟨?_, ?_, ?_, ?_, hfar', ?_⟩
  · refine ⟨hos.1.trans h.bel.os, hos.2.1.trans h.bel.tape, hos.2.2.trans h.bel.output, Nat.le_trans h.bel.size (by simpa [World.setCell] using hsz), fun k hk hne => ?_⟩
    rw [ho k (by omega), hn k (by omega)]
    exact h.bel.block k hk hne
  · rw [ho _ (by omega), hn _ (by omega)]; exact h.n
  · rw [heap_setCell_same w' (w.heap.size + 1) 5 _ 68 _ ((hn _ (by omega)).trans h.t)]; rfl
  · refine own_block (w := w') (n := (ts ++ [t]).length) (xs := ptrs (ps ++ [p])) ?_ (fun k hk => ho k (by have := hfar' k hk; omega))
    simpa [ptrs] using hown
  · have hszc : (w'.setCell ⟨w.heap.size + 1, 5, none⟩ v').heap.size = w'.heap.size := by simp [World.setCell]
    have hF : ∀ k, (w.heap.size + 1 < k ∧ k < wr.heap.size ∧ v.ownBlock ≠ some k) → (w.heap.size + 1 < k ∧ k < (w'.setCell ⟨w.heap.size + 1, 5, none⟩ v').heap.size ∧ v'.ownBlock ≠ some k) := by
      intro k hk
      refine ⟨hk.1, by rw [hszc]; omega, fun e => ?_⟩
      rcases hv' with e2 | e2
      · exact hk.2.2 (e2 ▸ e)
      · have := e2 k e; omega
    have hW : ∀ k, (w.heap.size + 1 < k ∧ k < wr.heap.size ∧ v.ownBlock ≠ some k) → (w'.setCell ⟨w.heap.size + 1, 5, none⟩ v').heap[k]? = wr.heap[k]? := fun k hk => by
      rw [ho k (by omega), hblk k hk.2.1 hk.2.2]
    have hT : ∀ k, (lo ≤ k ∧ k < wr.heap.size) → (w.heap.size + 1 < k ∧ k < wr.heap.size ∧ v.ownBlock ≠ some k) := fun k hk => ⟨by omega, hk.2, fun e => by have := hlo2 k e; omega⟩
    exact TrsIn.snoc (TrIn.turn (fun k hk => hF k (hT k hk)) (fun k hk => hW k (hT k hk)) t p ht) (TrsIn.turn hF hW ts ps h.kids)
theorem Bw.app {w w1 w3 : World} {rp : Nat} {tk : Tk} {kx : Int} {ao : Option Addr} {i cp mm lo p : Nat} {ts : List Tr} {ps : List Nat} {t : Tr} {v3 : Value} {ob : Obj} (h : Bw w w1 rp tk kx (.slice ao i cp) ts ps) (ht : TrIn w1 (fun k => lo ≤ k ∧ k < w1.heap.size) t p) (hlo : w.heap.size + 1 < lo) (hlo2 : ∀ r, (Value.slice ao i cp).ownBlock = some r → r < lo) (hl : ts.length = i)
    (hown : w3.ownsRow 0 58 1 v3 (i + 1) (ptrs ps ++ [.pointer (some ⟨p, 0, none⟩)])) (hg : ((w1.drewN mm).alloc ob).grownBy w3 (Value.slice ao i cp).ownBlock) (hat : v3.ownBlock = (Value.slice ao i cp).ownBlock ∨ v3.ownBlock = some ((w1.drewN mm).alloc ob).heap.size) :
    w3.cell? ⟨w.heap.size + 1, 5, none⟩ = some (.slice ao i cp) ∧ w3.frozen? ⟨w.heap.size + 1, 5, none⟩ = false ∧ Bw w (w3.setCell ⟨w.heap.size + 1, 5, none⟩ v3) rp tk kx v3 (ts ++ [t]) (ps ++ [p]) := by
  have hsz : ((w1.drewN mm).alloc ob).heap.size = w1.heap.size + 1 := by simp
  have hblk : ∀ k, k < w1.heap.size → (Value.slice ao i cp).ownBlock ≠ some k → w3.heap[k]? = w1.heap[k]? := fun k hk hne => (hg.block k (by omega) (fun e => hne e.symm)).trans (Below.heap_alloc (w1.drewN mm) ob k hk)
  have ht1 : w.heap.size + 1 < w1.heap.size := (Array.getElem?_eq_some_iff.1 h.t).1
  have hb : w3.heap[w.heap.size + 1]? = _ := (hblk _ ht1 (fun e => by have := h.far _ e; omega)).trans h.t
  refine ⟨by rw [cell_block hb]; rfl, by simp [World.frozen?, hb], Bw.more h ht hlo hlo2 (by rw [hl]; exact hown) (by have := hg.size; omega) ⟨hg.os, hg.tape, hg.output⟩ hblk ?_⟩
  rcases hat with e | e
  · exact .inl e
  · refine .inr fun r hr => ?_
    rw [e] at hr; cases hr; omega
theorem Bw.done {w wr : World} {rp : Nat} {tk : Tk} {kx : Int} {v : Value} {ts : List Tr} {ps : List Nat} (h : Bw w wr rp tk kx v ts ps) : TrIn wr (fun k => w.heap.size ≤ k ∧ k < wr.heap.size) (.node kx ByteArray.empty ByteArray.empty false tk.line ts) (w.heap.size + 1) := by
  rw [TrIn]
  have ht1 : w.heap.size + 1 < wr.heap.size := (Array.getElem?_eq_some_iff.1 h.t).1
  exact ⟨⟨by omega, ht1⟩, by decide, v, ps, h.t, fun r hr => ⟨by have := h.far r hr; omega, (h.own.lt r hr).2⟩, h.own, TrsIn.turn (fun k hk => ⟨⟨by omega, hk.2.1⟩, by omega⟩) (fun k hk => rfl) ts ps h.kids⟩
end Go.Proofs.Ytgododijnogegaa
