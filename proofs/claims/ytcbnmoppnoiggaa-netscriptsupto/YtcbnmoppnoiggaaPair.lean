/-
  A net and the document's, side by side in memory.
-/
import Derived.Test.YtcbnmoppnoiggaaTie
import Derived.Test.YtcbnmoppnoiggaaRefuse
namespace Go.Proofs.Ytcbnmoppnoiggaa
open Go.RowKit
set_option linter.unusedVariables false
set_option linter.unusedSimpArgs false
/-- How often a name is refused yet, by the document's two lists. -/
def count : List ByteArray → List Int → ByteArray → Int
  | x :: ns, t :: ts, nm => if x = nm then t else count ns ts nm
  | _, _, _ => 0
/-- Where a net stands: its block, its row, its map, its connections, its counts; and the document's. -/
structure St where
  b : Nat
  row : Value
  mv : Value
  cs : List Cn
  f : ByteArray → Int
  bound : Nat
  b' : Nat
  rc : Value
  rn : Value
  rt : Value
  rs : List Rc
  ns : List ByteArray
  ts : List Int
def St.own (s : St) : List Nat := blocks s.b s.row s.cs ++ mblk s.mv
def St.own' (s : St) : List Nat := rblocks s.b' s.rc s.rn s.rt s.rs
structure Pr (w : World) (base : Nat) (s : St) : Prop where
  net : Net w base s.b s.row s.mv s.cs
  map : MapIs w base s.mv s.f s.bound
  ref : RNet w base s.b' s.rc s.rn s.rt s.rs s.ns s.ts
  len : s.cs.length = s.rs.length
  tie : ∀ (i : Nat) c r, s.cs[i]? = some c → s.rs[i]? = some r → Tie c.m r
  nlen : s.ns.length = s.ts.length
  nod : s.ns.Nodup
  cnt : ∀ nm, s.f nm = count s.ns s.ts nm
  pos : ∀ t ∈ s.ts, 0 ≤ t ∧ t ≤ 9223372036854775807
  apart : ∀ k ∈ s.own, k ∉ s.own'
theorem MapIs.lt {w : World} {base : Nat} {mv : Value} {f : ByteArray → Int} {bound : Nat} (h : MapIs w base mv f bound) : ∀ k ∈ mblk mv, base ≤ k ∧ k < w.heap.size := by
  intro k hk
  rcases h with ⟨rfl, _⟩ | ⟨m, D, rfl, hb, hown, _⟩
  · cases hk
  · simp [mblk] at hk
    subst hk
    exact ⟨hb, hown.lt⟩
theorem MapIs.far {w w' : World} {base : Nat} {mv : Value} {f : ByteArray → Int} {bound : Nat} (h : MapIs w base mv f bound) (hk : ∀ k ∈ mblk mv, w'.heap[k]? = w.heap[k]?) : MapIs w' base mv f bound := by
  rcases h with h0 | ⟨m, D, rfl, hb, ⟨es, clock, hb1, F, hsz, hD⟩, rest⟩
  · exact .inl h0
  · exact .inr ⟨m, D, rfl, hb, ⟨es, clock, (hk m (by simp [mblk])).trans hb1, F, hsz, hD⟩, rest⟩
theorem MapIs.mono {w : World} {base : Nat} {mv : Value} {f : ByteArray → Int} {n n' : Nat} (h : MapIs w base mv f n) (hn : n ≤ n') : MapIs w base mv f n' := by
  rcases h with h0 | ⟨m, D, rfl, hb, hown, rest⟩
  · exact .inl h0
  · exact .inr ⟨m, D, rfl, hb, hown.mono hn, rest⟩
theorem Pr.lt {w : World} {base : Nat} {s : St} (h : Pr w base s) : (∀ k ∈ s.own, base ≤ k ∧ k < w.heap.size) ∧ ∀ k ∈ s.own', base ≤ k ∧ k < w.heap.size :=
  ⟨fun k hk => (List.mem_append.1 hk).elim (h.net.lt k) (h.map.lt k), h.ref.lt⟩
/-- What is not touched stays. -/
theorem Pr.far {w w' : World} {base : Nat} {s : St} (h : Pr w base s) (hk : ∀ k, k ∈ s.own ∨ k ∈ s.own' → w'.heap[k]? = w.heap[k]?) : Pr w' base s :=
  ⟨h.net.far fun k e => hk k (.inl (List.mem_append.2 (.inl e))), h.map.far fun k e => hk k (.inl (List.mem_append.2 (.inr e))), h.ref.far fun k e => hk k (.inr e), h.len, h.tie, h.nlen, h.nod, h.cnt, h.pos, h.apart⟩
/-- A map's block is none of the net's: they are of another make. -/
theorem map_not {w : World} {base b : Nat} {row mv : Value} {cs : List Cn} {f : ByteArray → Int} {n : Nat} (N : Net w base b row mv cs) (M : MapIs w base mv f n) : ∀ k ∈ mblk mv, k ∉ blocks b row cs := by
  intro k hk
  rcases M with ⟨rfl, _⟩ | ⟨m, D, rfl, hb, ⟨es, clock, hb1, _⟩, _⟩
  · cases hk
  · simp [mblk] at hk
    subst hk
    exact map_out N hb1
structure Moved (w w' : World) (base : Nat) (s s' : St) : Prop where
  pr : Pr w' base s'
  turn : Turn w w' (s.own ++ s.own')
  sub : ∀ k ∈ s'.own ++ s'.own', k ∈ s.own ++ s.own' ∨ w.heap.size ≤ k
  eb : s'.b = s.b
  eb' : s'.b' = s.b'
  bnd : s'.bound ≤ s.bound + 1
  nsl : s'.ns.length ≤ s.ns.length + 1
/-- The program's net made a step on its connections, the document's on its own: together again. -/
theorem Pr.both {w w1 w2 : World} {base : Nat} {s : St} (h : Pr w base s) {row' rc' rn' rt' : Value} {cs' : List Cn} {rs' : List Rc} {ns' : List ByteArray} {ts' : List Int}
    (D : Dialed w w1 base s.b s.row s.mv s.cs row' s.mv cs') (R : RNet w1 base s.b' s.rc s.rn s.rt s.rs s.ns s.ts → RStep w1 w2 base s.b' s.rc s.rn s.rt s.rs s.ns s.ts rc' rn' rt' rs' ns' ts')
    (hlen : cs'.length = rs'.length) (htie : ∀ (i : Nat) c r, cs'[i]? = some c → rs'[i]? = some r → Tie c.m r) (hn : ns' = s.ns) (ht : ts' = s.ts) :
    Moved w w2 base s { s with row := row', cs := cs', rc := rc', rn := rn', rt := rt', rs := rs', ns := ns', ts := ts' } := by
  subst hn
  subst ht
  have lt := h.lt
  have ap := h.apart
  have r1 : RNet w1 base s.b' s.rc s.rn s.rt s.rs s.ns s.ts := h.ref.far fun k hk => D.turn.block k (h.ref.lt k hk).2 (fun hm => ap k (List.mem_append.2 (.inl hm)) hk)
  have S := R r1
  have own1 : ∀ k, k ∈ blocks s.b row' cs' → k ∉ s.own' := fun k hk hm => (D.sub k hk).elim (fun h' => ap k (List.mem_append.2 (.inl h')) hm) (fun h' => by have := (lt.2 k hm).2; omega)
  have m1 : MapIs w1 base s.mv s.f s.bound := h.map.far fun k hk => D.turn.block k (h.map.lt k hk).2 (map_not h.net h.map k hk)
  have n2 : Net w2 base s.b row' s.mv cs' := D.net.far fun k hk => S.turn.block k (D.net.lt k hk).2 (own1 k hk)
  have m2 : MapIs w2 base s.mv s.f s.bound := m1.far fun k hk => S.turn.block k (m1.lt k hk).2 (fun hm => ap k (List.mem_append.2 (.inr hk)) hm)
  refine ⟨⟨n2, m2, S.net, hlen, htie, h.nlen, h.nod, h.cnt, h.pos, ?_⟩, ?_, ?_, rfl, rfl, Nat.le_succ _, Nat.le_succ _⟩
  · intro k hk hm
    rcases S.sub k hm with hm' | hm'
    · rcases List.mem_append.1 hk with hk | hk
      · exact own1 k hk hm'
      · exact ap k (List.mem_append.2 (.inr hk)) hm'
    · rcases List.mem_append.1 hk with hk | hk
      · have := (D.net.lt k hk).2; omega
      · have := (m1.lt k hk).2; omega
  · exact (D.turn.mono (fun k hk => .inl (List.mem_append.2 (.inl (List.mem_append.2 (.inl hk)))))).trans S.turn (fun k hk => .inl (List.mem_append.2 (.inr hk)))
  · intro k hk
    rcases List.mem_append.1 hk with hk | hk
    · rcases List.mem_append.1 hk with hk | hk
      · rcases D.sub k hk with h' | h'
        · exact .inl (List.mem_append.2 (.inl (List.mem_append.2 (.inl h'))))
        · exact .inr h'
      · exact .inl (List.mem_append.2 (.inl (List.mem_append.2 (.inr hk))))
    · rcases S.sub k hk with h' | h'
      · exact .inl (List.mem_append.2 (.inr h'))
      · exact .inr (Nat.le_trans D.turn.size h')
end Go.Proofs.Ytcbnmoppnoiggaa
