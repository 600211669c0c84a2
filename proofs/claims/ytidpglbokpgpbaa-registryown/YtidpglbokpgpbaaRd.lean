/- A registry in memory. -/
import Derived.Test.YtidpglbokpgpbaaRc
import Derived.StringKeys
import Derived.Maps.OwnSet
import Derived.Sort.KeysCollected
namespace Go.Proofs.Ytidpglbokpgpbaa
open Go.RowKit
set_option linter.unusedVariables false
set_option linter.unusedSimpArgs false
set_option maxRecDepth 100000
theorem zero52 (w : World) : (zeroValue 52).run Try.prog w = .ok (.pointer none) w := by kernel_rfl
theorem keyed9 : Go.Maps.Keyed Try.prog 9 := Go.Maps.string_keyed Try.underlying9
theorem okS_lit {s : ByteArray} (h : okS s) : ∃ l, keyOf Try.prog 9 (.string s) = some l := ⟨_, Go.WideMaps.keyOf_string_mk Try.underlying9 (by unfold okS at h; unfold maxLen; omega)⟩
/-- how a pointer reads: by its block's number -/
def Rf : Value → Option (DataW Unit × List MemPlace)
  | .pointer (some ⟨b, 0, none⟩) => some (.lit (.int .i64 b), [])
  | .pointer none => some (.lit (.int .i64 (-1)), [])
  | _ => none
theorem rf_inv {v : Value} {b : Nat} {ps : List MemPlace} (h : Rf v = some (.lit (.int .i64 b), ps)) : v = .pointer (some ⟨b, 0, none⟩) := by
  unfold Rf at h
  split at h
  · rename_i b'
    simp at h
    obtain ⟨e, _⟩ := h
    have : b' = b := by omega
    rw [this]
  · simp at h
  · cases h
/-- a map that says so of each key -/
structure Ms (W : World) (m N : Nat) (f : ByteArray → Option Nat) : Prop where
  ex : ∃ D : DataW Unit, W.ownsMap Try.prog 9 Rf m N D ∧ Go.Maps.Tidy D ∧ (∀ k, okS k → ∀ l, keyOf Try.prog 9 (.string k) = some l → (∀ i, f k = some i → ∀ z, D.atKey l z = .lit (.int .i64 i)) ∧ (f k = none → ∀ z, D.atKey l z = z)) ∧ ∀ x ∈ strKeys D, okS ⟨x.toArray⟩
theorem Ms.lt {W : World} {m N : Nat} {f : ByteArray → Option Nat} (h : Ms W m N f) : m < W.heap.size := by obtain ⟨D, h1, _⟩ := h.ex; exact h1.lt
theorem Ms.isMap {W : World} {m N : Nat} {f : ByteArray → Option Nat} (h : Ms W m N f) : ∃ es c, W.heap[m]? = some (.map es c) := by obtain ⟨D, ⟨es, clock, h2, rest⟩, _⟩ := h.ex; exact ⟨es, clock, h2⟩
theorem Ms.keep {W W' : World} {m N : Nat} {f : ByteArray → Option Nat} (h : Ms W m N f) (hb : W'.heap[m]? = W.heap[m]?) : Ms W' m N f := by
  obtain ⟨D, ⟨es, clock, h2, rest⟩, h3⟩ := h.ex
  exact ⟨D, ⟨es, clock, hb.trans h2, rest⟩, h3⟩
theorem Ms.below {W W' : World} {m N : Nat} {f : ByteArray → Option Nat} (h : Ms W m N f) (hb : Below W.heap.size W W') : Ms W' m N f := h.keep (hb.block m h.lt)
theorem Ms.made (W : World) : Ms (W.alloc (.map #[] 0)) W.heap.size 0 (fun _ => none) :=
  ⟨.map [], World.ownsMap_made (H := Unit) W Try.prog 9 _, Go.Maps.tidy_empty, fun k _ l _ => ⟨(fun i h => by cases h), (fun _ z => rfl)⟩, fun x hx => (by simp [strKeys] at hx)⟩
theorem Ms.mono {W : World} {m N N' : Nat} {f : ByteArray → Option Nat} (h : Ms W m N f) (hn : N ≤ N') : Ms W m N' f := by
  obtain ⟨D, h1, h3⟩ := h.ex
  exact ⟨D, h1.mono hn, h3⟩
def ptrO (o : Option Nat) : Value := .pointer (o.map fun i => ⟨i, 0, none⟩)
theorem Ms.look {W : World} {m N : Nat} {f : ByteArray → Option Nat} (h : Ms W m N f) {k : ByteArray} (hk : okS k) :
    (Instr.lookup 61 (.map (some m)) (.string k) false).run Try.prog W = .ok (ptrO (f k)) W := by
  obtain ⟨D, hown, _, hf, _⟩ := h.ex
  obtain ⟨l, hl⟩ := (okS_lit hk)
  obtain ⟨h1, h2⟩ := hf k hk l hl
  obtain ⟨v, ps, hrun, hv⟩ := hown.lookup keyed9 Try.underlying61 (zero52 W) (zd := .lit (.int .i64 (-1))) (zp := []) rfl hl
  rcases hfk : f k with _ | i
  · rw [h2 hfk] at hv
    rw [hrun]
    have : v = .pointer none := by
      unfold Rf at hv
      split at hv
      · simp at hv
      · rfl
      · cases hv
    rw [this]; rfl
  · rw [h1 i hfk] at hv
    rw [hrun, rf_inv hv]; rfl
def setS (f : ByteArray → Option Nat) (k : ByteArray) (i : Nat) : ByteArray → Option Nat := fun k' => if k' = k then some i else f k'
theorem lit_str {k : ByteArray} {l : Lit} (hk : okS k) (hl : keyOf Try.prog 9 (.string k) = some l) : okS ⟨(strOf l).toArray⟩ := by
  have e := Go.WideMaps.keyOf_string_mk Try.underlying9 (s := k) (by unfold okS at hk; unfold maxLen; omega)
  rw [hl] at e
  injection e with e
  subst e
  have : (⟨(strOf (.string k.data.toList)).toArray⟩ : ByteArray) = k := by simp [strOf]
  rw [this]; exact hk
theorem keys_put {D : DataW Unit} {l : Lit} {d : DataW Unit} (h : Go.Maps.Tidy D) (hl : okS ⟨(strOf l).toArray⟩) (hk : ∀ x ∈ strKeys D, okS ⟨x.toArray⟩) : ∀ x ∈ strKeys (D.put l d), okS ⟨x.toArray⟩ := by
  obtain ⟨es, rfl, hp⟩ := h
  intro x hx
  have hx : x ∈ (DataW.insert (l, d) (es.filter _)).map (fun p => strOf p.1) := hx
  obtain ⟨p, hp1, rfl⟩ := List.mem_map.1 hx
  rcases List.mem_cons.1 ((Go.WideShapes.insert_perm (l, d) _).mem_iff.1 hp1) with e | e
  · subst e; exact hl
  · exact hk _ (List.mem_map.2 ⟨p, (List.mem_filter.1 e).1, rfl⟩)
theorem Ms.put {W : World} {m N : Nat} {f : ByteArray → Option Nat} (h : Ms W m N f) {k : ByteArray} (hk : okS k) (i : Nat) (hN : N < maxLen) :
    ∃ w', (Instr.mapUpdate 61 (.map (some m)) (.string k) (.pointer (some ⟨i, 0, none⟩))).run Try.prog W = .ok () w' ∧ Ms w' m (N + 1) (setS f k i) ∧ W.grownBy w' (some m) := by
  obtain ⟨D, h1, h2, hf, hkk⟩ := h.ex
  obtain ⟨l, hl⟩ := (okS_lit hk)
  obtain ⟨w', e1, e2, e3⟩ := h1.update keyed9 Try.underlying61 hN hl (val := .pointer (some ⟨i, 0, none⟩)) (d := .lit (.int .i64 i)) (ps := []) rfl
  refine ⟨w', e1, ⟨_, e2, h2.put (keyed9.key hl) _, fun k' hk' l' hl' => ?_, keys_put h2 (lit_str hk hl) hkk⟩, e3⟩
  unfold setS
  by_cases e : k' = k
  · subst e
    rw [hl] at hl'; cases hl'
    rw [if_pos rfl]
    exact ⟨fun i' hi' z => by cases hi'; exact Go.Maps.atKey_put_same h2.isMap (keyed9.key hl) _ z, fun h => by cases h⟩
  · rw [if_neg e]
    have hne : l' ≠ l := fun e' => by subst e'; exact e (by have := keyed9.inj hl' hl; injection this)
    obtain ⟨a1, a2⟩ := hf k' hk' l' hl'
    exact ⟨fun i' hi' z => by rw [Go.Maps.atKey_put_other hne]; exact a1 i' hi' z, fun hn z => by rw [Go.Maps.atKey_put_other hne]; exact a2 hn z⟩
theorem makeMapS_0 (w : World) : (Instr.makeMap 61 none).run Try.prog w = .ok (.map (some w.heap.size)) (w.alloc (.map #[] 0)) := by
  simp [Instr.makeMap, run_underlying Try.underlying61, Result.andThen, go_sem]
/-- the map of a registry: none as yet, or such a one -/
inductive Mo (W : World) (base : Nat) : Option Nat → Nat → (ByteArray → Option Nat) → Prop
  | nil_ (f : ByteArray → Option Nat) (h : ∀ k, f k = none) : Mo W base none 0 f
  | at_ (m N : Nat) (f : ByteArray → Option Nat) (h : Ms W m N f) (hb : base ≤ m) : Mo W base (some m) N f
theorem Mo.keep {W W' : World} {base : Nat} {mo : Option Nat} {N : Nat} {f : ByteArray → Option Nat} (h : Mo W base mo N f) (hk : ∀ k es c, base ≤ k → W.heap[k]? = some (.map es c) → W'.heap[k]? = W.heap[k]?) : Mo W' base mo N f := by
  cases h with
  | nil_ f h => exact .nil_ f h
  | at_ m N f h hb => exact .at_ m N f (by obtain ⟨es, c, e⟩ := h.isMap; exact h.keep (hk m es c hb e)) hb
theorem Mo.look {W : World} {base : Nat} {mo : Option Nat} {N : Nat} {f : ByteArray → Option Nat} (h : Mo W base mo N f) {k : ByteArray} (hk : okS k) :
    (Instr.lookup 61 (.map mo) (.string k) false).run Try.prog W = .ok (ptrO (f k)) W := by
  cases h with
  | nil_ f h =>
    obtain ⟨l, hl⟩ := (okS_lit hk)
    rw [h k]
    exact Go.Maps.look_nil (w := W) false keyed9 Try.underlying61 (zero52 W) hl
  | at_ m N f h hb => exact h.look hk
/-- what a registry says, and where its things lie -/
structure Rg where
  vw : List Hx
  va : Option Addr
  vc : Nat
  ep : Nat
  ss : List Hx
  sa : Option Addr
  sc : Nat
  mo : Option Nat
  N : Nat
  pl : ByteArray → Option Nat
  sf : Nat → St
  fr : St
def rcel (v : Value) (e : Int) (s m : Value) (i f r w t : Int) (k : Nat) (n : Int) : Array Value := #[v, .int .i64 e, s, m, .int .i64 i, .int .i64 f, .int .i64 r, .int .i64 w, .int .i64 t, .float .f64 k, .int .i64 n]
def Rg.cells (r : Rg) : Array Value := rcel (.slice r.va r.vw.length r.vc) r.ep (.slice r.sa r.ss.length r.sc) (.map r.mo) (nowI r.fr.up) (-r.fr.fall) r.fr.rise r.fr.row r.fr.turns r.fr.took r.fr.timed
structure Rr (W : World) (base b n : Nat) (r : Rg) : Prop where
  blk : W.heap[b]? = some (.cells r.cells 63 (0, 0))
  lo : base ≤ b
  vw : Ov W base 47 (.slice r.va r.vw.length r.vc) r.vw
  ss : Ov W base 78 (.slice r.sa r.ss.length r.sc) r.ss
  mp : Mo W base r.mo r.N r.pl
  sts : ∀ k p, r.pl k = some p → base ≤ p ∧ Hs W p (r.sf p) ∧ Ok (r.sf p) n
  fr : Ok r.fr 0
  ep : r.ep ≤ n
  cnt : r.N ≤ 1099511627776
  inj : ∀ k k' p, r.pl k = some p → r.pl k' = some p → k = k'
theorem Rr.cs {W : World} {base b n : Nat} {r : Rg} (h : Rr W base b n r) : W.cell? ⟨b, 0, none⟩ = some (.slice r.va r.vw.length r.vc) ∧ W.cell? ⟨b, 1, none⟩ = some (.int .i64 r.ep) ∧ W.cell? ⟨b, 2, none⟩ = some (.slice r.sa r.ss.length r.sc) ∧ W.cell? ⟨b, 3, none⟩ = some (.map r.mo) := by
  have h := h.blk
  refine ⟨?_, ?_, ?_, ?_⟩ <;> (simp [World.cell?, h]; rfl)
theorem Rr.froz {W : World} {base b n : Nat} {r : Rg} (h : Rr W base b n r) (o : Nat) : W.frozen? ⟨b, o, none⟩ = false := by
  have h := h.blk
  simp [World.frozen?, h]
/-- whatever else is turned: what is no registry's and no state's block of one's own stays -/
theorem Rr.keep {W W' : World} {base b n : Nat} {r : Rg} (h : Rr W base b n r) (hk : ∀ k, base ≤ k → k < W.heap.size → W'.heap[k]? = W.heap[k]?) : Rr W' base b n r :=
  ⟨(hk b h.lo (lt_of_block h.blk)).trans h.blk, h.lo, h.vw.keep (fun k cs t hb hc _ => hk k hb (lt_of_block hc)), h.ss.keep (fun k cs t hb hc _ => hk k hb (lt_of_block hc)), h.mp.keep (fun k es c hb hc => hk k hb (lt_of_block hc)), fun k p e => by
    obtain ⟨h1, h2, h3⟩ := h.sts k p e
    exact ⟨h1, (hk p h1 (lt_of_block h2)).trans h2, h3⟩, h.fr, h.ep, h.cnt, h.inj⟩
theorem Rr.below {W W' : World} {base b n : Nat} {r : Rg} (h : Rr W base b n r) (hb : Below W.heap.size W W') : Rr W' base b n r := h.keep (fun k _ hk => hb.block k hk)
theorem Ov.stp {W W' : World} {base : Nat} {e : TypeId} {v : Value} {os : List Hx} {bs bs' : List Nat} (h : Ov W base e v os) (g : Stp W W' bs bs') (ht : ∀ k ∈ bs, ∃ cs t fr, W.heap[k]? = some (.cells cs t fr) ∧ t ≠ 9 ∧ t ≠ e) : Ov W' base e v os :=
  h.keep (fun k cs t hb hc h1 => g.old k (lt_of_block hc) (fun hm => by
    obtain ⟨cs', t', fr', e', n1, n2⟩ := ht k hm
    rw [hc] at e'
    injection e' with e'
    injection e' with _ e' _
    subst e'
    exact h1.elim n1 n2))
theorem Mo.stp {W W' : World} {base : Nat} {mo : Option Nat} {N : Nat} {f : ByteArray → Option Nat} {bs bs' : List Nat} (h : Mo W base mo N f) (g : Stp W W' bs bs') (ht : ∀ k ∈ bs, ∃ cs t fr, W.heap[k]? = some (.cells cs t fr)) : Mo W' base mo N f :=
  h.keep (fun k es c hb hc => g.old k (lt_of_block hc) (fun hm => by
    obtain ⟨cs', t', fr', e'⟩ := ht k hm
    rw [hc] at e'
    cases e'))
end Go.Proofs.Ytidpglbokpgpbaa
