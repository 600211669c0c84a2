/-
  A grower takes the items of a sequence.
-/
import Derived.Test.YtgododijnogegaaGx
import Derived.Test.YtgododijnogegaaGr2
namespace Go.Proofs.Ytgododijnogegaa
open Go.RowKit
set_option linter.unusedVariables false
set_option linter.unusedSimpArgs false
set_option maxRecDepth 100000
/-- entries under way -/
structure Li (w wr : World) (base gp : Nat) (doc : Int) (g off n cap : Nat) (L : List Tk) (v0 : Value) (os : List Nx) (ts : List Tr) (kv : Value) (q : Nat) (v : Value) (ns : List Nx) : Prop where
  gs : Gs wr base gp doc g off n cap L q v (os ++ ns)
  nds : ns.map Nx.nd = flats ts os.length
  kids : wr.ownsRow base 3 1 kv ts.length (iV (starts ts os.length))
  far : ∀ r, kv.ownBlock = some r → w.heap.size ≤ r
  tg : Tg w wr gp v0
  row : v.ownBlock = v0.ownBlock ∨ ∀ r, v.ownBlock = some r → w.heap.size ≤ r
  new : ∀ o ∈ ns, ∀ r, o.kv.ownBlock = some r → w.heap.size ≤ r ∧ kv.ownBlock ≠ some r
theorem Li.lens {w wr : World} {base gp : Nat} {doc : Int} {g off n cap : Nat} {L : List Tk} {v0 : Value} {os : List Nx} {ts : List Tr} {kv : Value} {q : Nat} {v : Value} {ns : List Nx} (h : Li w wr base gp doc g off n cap L v0 os ts kv q v ns) : (os ++ ns).length = os.length + sizes ts := by
  have := congrArg List.length h.nds
  rw [List.length_map, flats_length] at this
  simp [this]
theorem Li.start {w : World} {base gp : Nat} {doc : Int} {g off n cap : Nat} {L : List Tk} {v0 : Value} {os : List Nx} {q : Nat} (h : Gs w base gp doc g off n cap L q v0 os) : Li w w base gp doc g off n cap L v0 os [] (.slice none 0 0) q v0 [] :=
  ⟨by rw [List.append_nil]; exact h, by simp [flats], ⟨by simp [iV, starts], .inl ⟨rfl, rfl⟩⟩, (fun r h => by cases h), ⟨rfl, rfl, rfl, Nat.le_refl _, fun k _ _ _ => rfl⟩, .inl rfl, fun o ho => by cases ho⟩
theorem Li.turn {w wr w2 : World} {base gp : Nat} {doc : Int} {g off n cap : Nat} {L : List Tk} {v0 : Value} {os : List Nx} {ts : List Tr} {kv : Value} {q q2 : Nat} {v : Value} {ns : List Nx} (h : Li w wr base gp doc g off n cap L v0 os ts kv q v ns) (hg : Gs w2 base gp doc g off n cap L q2 v (os ++ ns)) (hb : But gp wr w2) : Li w w2 base gp doc g off n cap L v0 os ts kv q2 v ns :=
  ⟨hg, h.nds, own_block h.kids (fun k hk => hb.block k (h.kids.lt k hk).2 (by have := (h.kids.lt k hk).1; have := h.gs.gplt; omega)), h.far, h.tg.trans (Tg.of_but v hb) h.row, h.row, h.new⟩
theorem Gs.keep {w w' : World} {base gp : Nat} {doc : Int} {g off n cap : Nat} {L : List Tk} {q : Nat} {v : Value} {os : List Nx} (h : Gs w base gp doc g off n cap L q v os) (hs : w.heap.size ≤ w'.heap.size) (hp : w'.heap[gp]? = w.heap[gp]?) (hg : w'.heap[g]? = w.heap[g]?) (ho : Own w' base v os) : Gs w' base gp doc g off n cap L q v os :=
  { h with
    blk := by
      obtain ⟨oq, h1, h2⟩ := h.blk
      exact ⟨oq, hp.trans h1, h2⟩
    ts := fun i t hi j u hu => by
      rw [← h.ts i t hi j u hu]
      exact World.cell?_of_block (w := w) (a := ⟨g, off + i * 5 + j, none⟩) hg
    own := ho
    bw := Nat.le_trans h.bw hs }
theorem Li.numbered {w wr w3 : World} {base gp : Nat} {doc : Int} {g off n cap : Nat} {L : List Tk} {v0 : Value} {os : List Nx} {ts : List Tr} {kv : Value} {q : Nat} {v : Value} {ns : List Nx} {o : Obj} (h : Li w wr base gp doc g off n cap L v0 os ts kv q v ns) (hO : ∀ x ∈ os, ∀ r, x.kv.ownBlock = some r → r < w.heap.size)
    (hg : (wr.alloc o).grownBy w3 kv.ownBlock) : Gs w3 base gp doc g off n cap L q v (os ++ ns) ∧ Tg w w3 gp v0 ∧ wr.heap.size ≤ w3.heap.size := by
  have hb : ∀ k, k < wr.heap.size → kv.ownBlock ≠ some k → w3.heap[k]? = wr.heap[k]? := fun k hk hne => (hg.block k (by simp; omega) (fun e => hne e.symm)).trans (Below.heap_alloc wr o k hk)
  have hkb : ∀ k, k < base → kv.ownBlock ≠ some k := fun k hk e => by have := (h.kids.lt k e).1; omega
  have hsz : wr.heap.size ≤ w3.heap.size := Nat.le_trans (by simp) hg.size
  have hbw := h.gs.bw
  refine ⟨h.gs.keep hsz (hb gp (by have := h.gs.gplt; omega) (hkb gp h.gs.gplt)) (hb g (by have := h.gs.glt; omega) (hkb g h.gs.glt)) (h.gs.own.keep (fun k hk => hb k (h.gs.own.row.lt k hk).2 (fun e => own_ne h.kids h.gs.own.row e hk)) (fun x hx k hk => hb k ((h.gs.own.kids x hx).1.lt k hk).2 (fun e => ?_))), ?_, hsz⟩
  · rcases List.mem_append.1 hx with hx | hx
    · have h1 := h.far k e
      have h2 := hO x hx k hk
      omega
    · exact (h.new x hx k hk).2 e
  · refine ⟨hg.os.trans h.tg.os, hg.tape.trans h.tg.tape, hg.output.trans h.tg.output, Nat.le_trans h.tg.size hsz, fun k hk hgk hne => ?_⟩
    exact (hb k (Nat.lt_of_lt_of_le hk h.tg.size) (fun e => by have := h.far k e; omega)).trans (h.tg.block k hk hgk hne)
theorem Li.more {w wr w3 w4 : World} {base gp : Nat} {doc : Int} {g off n cap : Nat} {L : List Tk} {v0 : Value} {os : List Nx} {ts : List Tr} {t : Tr} {kv kv' : Value} {q q' : Nat} {v v' : Value} {ns ns2 : List Nx} {o : Obj} (h : Li w wr base gp doc g off n cap L v0 os ts kv q v ns) (hO : ∀ x ∈ os, ∀ r, x.kv.ownBlock = some r → r < w.heap.size)
    (hown : w3.ownsRow base 3 1 kv' (ts.length + 1) (iV (starts ts os.length) ++ [.int .i64 ((os.length + sizes ts : Nat) : Int)])) (hg : (wr.alloc o).grownBy w3 kv.ownBlock) (hat : kv'.ownBlock = kv.ownBlock ∨ kv'.ownBlock = some (wr.alloc o).heap.size)
    (hE : GwO w3 w4 base gp doc g off n cap L v (os ++ ns) (t.flat (os.length + sizes ts)) q' v' ns2) : Li w w4 base gp doc g off n cap L v0 os (ts ++ [t]) kv' q' v' (ns ++ ns2) := by
  obtain ⟨h3, ht3, hsz3⟩ := h.numbered hO hg
  have hk' : ∀ r, kv'.ownBlock = some r → r < w3.heap.size ∧ w.heap.size ≤ r := fun r hr => ⟨(hown.lt r hr).2, by
    rcases hat with e | e
    · exact h.far r (e ▸ hr)
    · rw [e] at hr; cases hr
      have := h.tg.size
      simp; omega⟩
  refine ⟨by rw [← List.append_assoc]; exact hE.gs, ?_, ?_, fun r hr => (hk' r hr).2, ht3.trans hE.tg h.row, ?_, fun x hx r hr => ?_⟩
  · rw [List.map_append, h.nds, hE.nds, flats_snoc]
  · have h1 : w3.ownsRow base 3 1 kv' (ts ++ [t]).length (iV (starts (ts ++ [t]) os.length)) := by
      rw [starts_snoc]
      simpa [iV] using hown
    exact own_block h1 (fun k hk => hE.tg.block k (hk' k hk).1 (by have := (hown.lt k hk).1; have := h.gs.gplt; omega) (own_ne hown h3.own.row hk))
  · rcases hE.row with e | e
    · rw [e]; exact h.row
    · exact .inr fun r hr => by have := e r hr; have := ht3.size; omega
  · rcases List.mem_append.1 hx with hx | hx
    · refine ⟨(h.new x hx r hr).1, fun e => ?_⟩
      rcases hat with e2 | e2
      · exact (h.new x hx r hr).2 (e2 ▸ e)
      · rw [e2] at e; cases e
        have hx' : x ∈ os ++ ns := by simp [hx]
        have := ((h.gs.own.kids x hx').1.lt _ hr).2
        simp at this
        omega
    · have h1 := hE.new x hx r hr
      exact ⟨by have := ht3.size; omega, fun e => by have := (hk' r e).1; omega⟩
/-- what the entries come to -/
def LiE (w : World) (base gp : Nat) (doc : Int) (g off n cap : Nat) (L : List Tk) (v : Value) (os : List Nx) (r : Rl) (e : Ending) (w' : World) : Prop := match r with
  | .ok ts q' made' => made' = os.length + sizes ts ∧ ∃ kv v' ns, e = .returned kv ∧ Li w w' base gp doc g off n cap L v os ts kv q' v' ns
  | .bad l er _ _ => e = wrongE doc l er ∧ Tg w w' gp v
end Go.Proofs.Ytgododijnogegaa
