import Derived.Test.YtmmnpnhffgpchaaGreatDoorBn22
import Derived.BigQuiet
import Derived.Maps.AppendAt
import Derived.Test.YtmmnpnhffgpchaaGreatDoorBn38
/-
  The document's Grown: what is refused at once, and a leaf.
-/
namespace Go.Proofs.YtmmnpnhffgpchaaGreatDoor
open Go.RowKit
set_option linter.unusedVariables false
set_option linter.unusedSimpArgs false
set_option maxRecDepth 100000
/-- what Grown answers -/
def GrE (w : World) (r : Option (Tr × Nat)) (e : Ending) (w' : World) : Prop :=
  Below w.heap.size w w' ∧ match r with
    | none => e = .returned (.tuple #[.pointer none, .int .i64 0])
    | some (t, b) => ∃ p, e = .returned (.tuple #[.pointer (some ⟨p, 0, none⟩), .int .i64 b]) ∧ TrIn w' (fun k => w.heap.size ≤ k ∧ k < w'.heap.size) t p
theorem GrE.no {w w' : World} {r : Option (Tr × Nat)} {e : Ending} (hr : r = none) (hb : Below w.heap.size w w') (he : e = .returned (.tuple #[.pointer none, .int .i64 0])) : GrE w r e w' := by
  subst hr; exact ⟨hb, he⟩
theorem Ns.below {w w' : World} {a : Option Addr} {l : List Nx} (h : Ns w a l) (hb : Below w.heap.size w w') : Ns w' a l := by
  refine ⟨fun o ho => ?_, ?_⟩
  · have hn := h.each o ho
    exact { hn with nums := hn.nums.below hb }
  · rcases h.row with h0 | ⟨g, off, ha, hc⟩
    · exact .inl h0
    · exact .inr ⟨g, off, ha, fun i o hi j u hu => cell_of_below hb (hc i o hi j u hu)⟩
theorem alloc2_new (w : World) (A B : Obj) : ((w.alloc A).alloc B).heap[w.heap.size + 1]? = some B := by
  have h := Go.heap_alloc_new (w.alloc A) B
  have e : (w.alloc A).heap.size = w.heap.size + 1 := by simp
  rw [e] at h
  exact h
theorem two_alloc (w : World) (a b : Obj) : Below w.heap.size w ((w.alloc a).alloc b) := ((Below.refl _ _).alloc (Nat.le_refl _) _).alloc (by simp) _
end Go.Proofs.YtmmnpnhffgpchaaGreatDoor

/-
  The document's Grown: a map, or a sequence.
-/
namespace Go.Proofs.YtmmnpnhffgpchaaGreatDoor
open Go.RowKit
set_option linter.unusedVariables false
set_option linter.unusedSimpArgs false
set_option maxRecDepth 100000
theorem wpList_append_at {P : Program} (w : World) {ops : Array Oper} {rest : List Oper} {o : Oper} {a : Act} {Q : Exit → Act → World → Prop} (hgd : o.guard = none) (s x : Operand) (t : TypeId)
    (hop : o.op = .call { callee := .builtin .append, args := #[s, x], argTypes := #[t, t] })
    (base : Nat) (e : TypeId) (i : TypeInfo) (z : Value) (size bytes : Nat) (h1 : P.underlying t = some (.slice e)) (h2 : P.info? e = some i) (h3 : i.zero = some z) (h4 : i.size = size) (h5 : i.bytes = bytes) (h6 : z.cells.size = size) (h7 : 0 < size)
    (v : Value) (n : Nat) (xs : List Value) (hs : a.eval s = v) (hown : w.ownsRow base e size v n xs)
    (ad : Addr) (m c : Nat) (news : List Value) (hx : a.eval x = .slice (some ad) m c) (hn : news.length = m * size) (hc : ∀ j u, news[j]? = some u → w.cell? (ad.add j) = some u) (h1c : ∀ u ∈ news, u.oneCell' = true)
    (b1 : n + m ≤ maxLen) (b2 : (n + m) * bytes ≤ 140737488355328) (hb : base ≤ w.heap.size)
    (h : ∀ v' w', w'.ownsRow base e size v' (n + m) (xs ++ news) → w.grownBy w' v.ownBlock → (v'.ownBlock = v.ownBlock ∨ v'.ownBlock = some w.heap.size) → wpList P ops Q rest (a.put o.dst v') w') : wpList P ops Q (o :: rest) a w :=
  wpList_plain hgd fun _ hK => by
    obtain ⟨v', w', hrun, r1, r2, _, r4⟩ := run_append_own_at (P := P) w base t o.type e i z size bytes h1 h2 h3 h4 h5 h6 h7 v n xs hown ad m c news hn hc h1c b1 b2 hb
    unfold Oper.wp
    simp [execOp, hop, resolve, invoke, builtin, hs, hx, hrun, Result.andThen]
    exact hK _ _ (h v' w' r1 r2 r4)
theorem info_parts {P : Program} {t : TypeId} {z : Option Value} {s b : Nat} (h : (P.info? t).map (fun i => (i.zero, i.size, i.bytes)) = some (z, s, b)) : ∃ i, P.info? t = some i ∧ i.zero = z ∧ i.size = s ∧ i.bytes = b := by
  rcases hi : P.info? t with _ | i
  · rw [hi] at h; cases h
  · rw [hi] at h; simp at h; exact ⟨i, rfl, h.1, h.2.1, h.2.2⟩
theorem Tryz.info62 : (Tryz.prog.info? 62).map (fun i => (i.zero, i.size, i.bytes)) = some (some (.pointer none), 1, 8) := by kernel_rfl
theorem own_form {w : World} {base : Nat} {e : TypeId} {size : Nat} {v : Value} {n : Nat} {xs : List Value} (h : w.ownsRow base e size v n xs) : ∃ a cp, v = .slice a n cp ∧ (a = none → cp = 0) ∧ n ≤ cp ∧ cp ≤ maxLen := by
  rcases h.2 with ⟨rfl, h0⟩ | ⟨g, cp, cur, rfl, _, _, hc, hm, _⟩
  · subst h0; exact ⟨none, 0, rfl, fun _ => rfl, Nat.le_refl _, by decide⟩
  · exact ⟨_, cp, rfl, (fun h => by cases h), hc, hm⟩
theorem own_some {w : World} {base : Nat} {e : TypeId} {size : Nat} {ao : Option Addr} {n cp : Nat} {xs : List Value} (h : w.ownsRow base e size (.slice ao n cp) n xs) (h0 : 0 < n) : ∃ r, ao = some ⟨r, 0, none⟩ := by
  rcases h.2 with ⟨h1, h2⟩ | ⟨g, cp, cur, h1, _⟩
  · omega
  · injection h1 with h1; exact ⟨g, h1⟩
/-- the keys so far are as they should be -/
def kOk (kd : Int) (ts : List Tr) : Prop := if kd = 2 then (ts.map Tr.key).Nodup else ∀ t ∈ ts, t.key = ByteArray.empty
theorem keys_bad2 {l : List Nx} {o : Nx} {ts : List Tr} {t : Tr} {i j : Nat} {t2 : Tr} (hk : o.kd = 2) (h : (ts ++ [t]).map Tr.key = keysOf l (o.ks.take i)) (hj : ts[j]? = some t2) (he : t2.key = t.key) : keysOk l o = false := by
  rw [keysOk, if_pos hk, decide_eq_false_iff_not]
  intro hn
  have h1 : (keysOf l (o.ks.take i)).Nodup := by
    have : keysOf l (o.ks.take i) = (keysOf l o.ks).take i := by simp [keysOf, List.map_take]
    rw [this]; exact hn.sublist (List.take_sublist _ _)
  rw [← h, List.map_append, List.nodup_append] at h1
  exact h1.2.2 t2.key (List.mem_map.2 ⟨t2, List.mem_of_getElem? hj, rfl⟩) t.key (by simp) he
theorem keys_bad3 {l : List Nx} {o : Nx} {ts : List Tr} {t : Tr} {i : Nat} (hk : ¬ o.kd = 2) (h : (ts ++ [t]).map Tr.key = keysOf l (o.ks.take i)) (he : ¬ t.key = ByteArray.empty) : keysOk l o = false := by
  rw [keysOk, if_neg hk, decide_eq_false_iff_not]
  intro hn
  have h1 : t.key ∈ keysOf l (o.ks.take i) := by rw [← h]; simp
  have h2 : keysOf l (o.ks.take i) = (keysOf l o.ks).take i := by simp [keysOf, List.map_take]
  rw [h2] at h1
  exact he (hn _ (List.mem_of_mem_take h1))
theorem keys_step {l : List Nx} {ks : List Int} {ts : List Tr} {t : Tr} {i k f b : Nat} (hi : ks[i]? = some (k : Int)) (ht : trT l f k = some (t, b)) (h : ts.map Tr.key = keysOf l (ks.take i)) : (ts ++ [t]).map Tr.key = keysOf l (ks.take (i + 1)) := by
  obtain ⟨o, ho, hk⟩ := trT_key ht
  rw [keysOf_snoc hi ho, List.map_append, h, List.map_cons, hk]
  rfl
theorem keys_good {l : List Nx} {o : Nx} {ts : List Tr} (h : ts.map Tr.key = keysOf l o.ks) (hk : kOk o.kd ts) : keysOk l o = true := by
  rw [keysOk]
  unfold kOk at hk
  split
  · rename_i h2
    rw [if_pos h2] at hk
    rw [← h]; simpa using hk
  · rename_i h2
    rw [if_neg h2] at hk
    rw [← h, decide_eq_true_iff]
    intro b hb
    obtain ⟨t, ht, rfl⟩ := List.mem_map.1 hb
    exact hk t ht
theorem kOk_nil (kd : Int) : kOk kd [] := by unfold kOk; split <;> simp
theorem kOk_two {ts : List Tr} {t : Tr} (h : kOk 2 ts) (hn : ∀ (j : Nat) t2, ts[j]? = some t2 → ¬ t2.key = t.key) : kOk 2 (ts ++ [t]) := by
  unfold kOk at *
  rw [if_pos rfl] at *
  rw [List.map_append, List.nodup_append]
  refine ⟨h, by simp, fun a ha b hb => ?_⟩
  obtain ⟨t2, ht2, rfl⟩ := List.mem_map.1 ha
  simp at hb; subst hb
  obtain ⟨j, hj⟩ := List.mem_iff_getElem?.1 ht2
  exact hn j t2 hj
theorem kOk_three {ts : List Tr} {t : Tr} (h : kOk 3 ts) (hn : t.key = ByteArray.empty) : kOk 3 (ts ++ [t]) := by
  unfold kOk at *
  rw [if_neg (by decide)] at *
  intro x hx
  rcases List.mem_append.1 hx with hx | hx
  · exact h x hx
  · simp at hx; subst hx; exact hn
/-- the tree under way: its kids so far -/
structure Gw (w wr : World) (o : Nx) (v : Value) (ts : List Tr) (ps : List Nat) : Prop where
  bel : Below w.heap.size w wr
  n : wr.heap[w.heap.size]? = some (.cells o.row.toArray 68 (0, 0))
  t : wr.heap[w.heap.size + 1]? = some (.cells #[.int .i64 o.kd, .string o.key, .string o.tx, .bool o.quo, .int .i64 o.ln, v] 95 (0, 0))
  own : wr.ownsRow 0 62 1 v ts.length (ptrs ps)
  far : ∀ r, v.ownBlock = some r → w.heap.size + 1 < r
  kids : TrsIn wr (fun k => w.heap.size + 1 < k ∧ k < wr.heap.size ∧ v.ownBlock ≠ some k) ts ps
theorem Gw.start (w : World) (o : Nx) : Gw w ((w.alloc (.cells o.row.toArray 68 (0, 0))).alloc (.cells #[.int .i64 o.kd, .string o.key, .string o.tx, .bool o.quo, .int .i64 o.ln, .slice none 0 0] 95 (0, 0))) o (.slice none 0 0) [] [] := by
  refine ⟨two_alloc _ _ _, ?_, alloc2_new _ _ _, ⟨by simp [ptrs], .inl ⟨rfl, rfl⟩⟩, (fun r h => by cases h), by rw [TrsIn]⟩
  rw [Below.heap_alloc _ _ _ (by simp)]
  exact Go.heap_alloc_new _ _
/-- behind a kid's call -/
theorem Gw.call {w wr w' : World} {o : Nx} {v : Value} {ts : List Tr} {ps : List Nat} (h : Gw w wr o v ts ps) (hb : Below wr.heap.size wr w') : Gw w w' o v ts ps := by
  have hs : ∀ {k : Nat} {x : Obj}, wr.heap[k]? = some x → w'.heap[k]? = some x := fun {k x} hk => (hb.block k (Array.getElem?_eq_some_iff.1 hk).1).trans hk
  refine ⟨h.bel.trans (hb.mono h.bel.size), hs h.n, hs h.t, own_block h.own (fun k hk => hb.block k (h.own.lt k hk).2), h.far, ?_⟩
  exact TrsIn.turn (fun k hk => ⟨hk.1, Nat.lt_of_lt_of_le hk.2.1 hb.size, hk.2.2⟩) (fun k hk => hb.block k hk.2.1) ts ps h.kids
/-- a kid more: appended, and stored -/
theorem Gw.more {w wr w' : World} {o : Nx} {v v' : Value} {ts : List Tr} {ps : List Nat} {t : Tr} {p : Nat} {lo : Nat} (h : Gw w wr o v ts ps) (ht : TrIn wr (fun k => lo ≤ k ∧ k < wr.heap.size) t p) (hlo : w.heap.size + 1 < lo) (hlo2 : ∀ r, v.ownBlock = some r → r < lo)
    (hown : w'.ownsRow 0 62 1 v' (ts.length + 1) (ptrs ps ++ [.pointer (some ⟨p, 0, none⟩)])) (hsz : wr.heap.size ≤ w'.heap.size) (hos : w'.os = wr.os ∧ w'.tape = wr.tape ∧ w'.output = wr.output) (hblk : ∀ k, k < wr.heap.size → v.ownBlock ≠ some k → w'.heap[k]? = wr.heap[k]?) (hv' : v'.ownBlock = v.ownBlock ∨ ∀ r, v'.ownBlock = some r → wr.heap.size ≤ r) :
    Gw w (w'.setCell ⟨w.heap.size + 1, 5, none⟩ v') o v' (ts ++ [t]) (ps ++ [p]) := by
  have hfar' : ∀ r, v'.ownBlock = some r → w.heap.size + 1 < r := by
    intro r hr
    rcases hv' with e | e
    · exact h.far r (e ▸ hr)
    · have := e r hr
      have := (Array.getElem?_eq_some_iff.1 h.t).1
      omega
  have ht1 : w.heap.size + 1 < wr.heap.size := (Array.getElem?_eq_some_iff.1 h.t).1
  have hn : ∀ k, k ≤ w.heap.size + 1 → w'.heap[k]? = wr.heap[k]? := fun k hk => hblk k (by omega) (fun e => by have := h.far k e; omega)
  have ho : ∀ k, k ≠ w.heap.size + 1 → (w'.setCell ⟨w.heap.size + 1, 5, none⟩ v').heap[k]? = w'.heap[k]? := fun k hk => Below.heap_setCell _ _ _ _ hk
  refine ⟨?_, ?_, ?_, ?_, hfar', ?_⟩
  · refine h.bel.trans ⟨hos.1, hos.2.1, hos.2.2, ?_, fun k hk => ?_⟩
    · simpa [World.setCell] using hsz
    · rw [ho k (by omega), hn k (by omega)]
  · rw [ho _ (by omega), hn _ (by omega)]; exact h.n
  · rw [heap_setCell_same w' (w.heap.size + 1) 5 _ 95 _ ((hn _ (by omega)).trans h.t)]; rfl
  · refine own_block (w := w') (n := (ts ++ [t]).length) (xs := ptrs (ps ++ [p])) ?_ (fun k hk => ho k (by have := hfar' k hk; omega))
    simpa [ptrs] using hown
  · have hszc : (w'.setCell ⟨w.heap.size + 1, 5, none⟩ v').heap.size = w'.heap.size := by simp [World.setCell]
    have hF : ∀ k, (w.heap.size + 1 < k ∧ k < wr.heap.size ∧ v.ownBlock ≠ some k) → (w.heap.size + 1 < k ∧ k < (w'.setCell ⟨w.heap.size + 1, 5, none⟩ v').heap.size ∧ v'.ownBlock ≠ some k) := by
      intro k hk
      refine ⟨hk.1, by rw [hszc]; omega, fun e => ?_⟩
      rcases hv' with e2 | e2
      · exact hk.2.2 (e2 ▸ e)
      · have := e2 k e; omega
    have hW : ∀ k, (w.heap.size + 1 < k ∧ k < wr.heap.size ∧ v.ownBlock ≠ some k) → (w'.setCell ⟨w.heap.size + 1, 5, none⟩ v').heap[k]? = wr.heap[k]? := fun k hk => by
      rw [ho k (by omega), hblk k hk.2.1 hk.2.2]
    have hT : ∀ k, (lo ≤ k ∧ k < wr.heap.size) → (w.heap.size + 1 < k ∧ k < wr.heap.size ∧ v.ownBlock ≠ some k) := fun k hk => ⟨by omega, hk.2, fun e => by have := hlo2 k e; omega⟩
    exact TrsIn.snoc (TrIn.turn (fun k hk => hF k (hT k hk)) (fun k hk => hW k (hT k hk)) t p ht) (TrsIn.turn hF hW ts ps h.kids)
theorem Gw.app {w w1 w3 : World} {o : Nx} {ao : Option Addr} {i cp mm lo p : Nat} {ts : List Tr} {ps : List Nat} {t : Tr} {v3 : Value} {ob : Obj} (h : Gw w w1 o (.slice ao i cp) ts ps) (ht : TrIn w1 (fun k => lo ≤ k ∧ k < w1.heap.size) t p) (hlo : w.heap.size + 1 < lo) (hlo2 : ∀ r, (Value.slice ao i cp).ownBlock = some r → r < lo) (hl : ts.length = i)
    (hown : w3.ownsRow 0 62 1 v3 (i + 1) (ptrs ps ++ [.pointer (some ⟨p, 0, none⟩)])) (hg : ((w1.drewN mm).alloc ob).grownBy w3 (Value.slice ao i cp).ownBlock) (hat : v3.ownBlock = (Value.slice ao i cp).ownBlock ∨ v3.ownBlock = some ((w1.drewN mm).alloc ob).heap.size) :
    w3.cell? ⟨w.heap.size + 1, 5, none⟩ = some (.slice ao i cp) ∧ w3.frozen? ⟨w.heap.size + 1, 5, none⟩ = false ∧ Gw w (w3.setCell ⟨w.heap.size + 1, 5, none⟩ v3) o v3 (ts ++ [t]) (ps ++ [p]) := by
  have hsz : ((w1.drewN mm).alloc ob).heap.size = w1.heap.size + 1 := by simp
  have hblk : ∀ k, k < w1.heap.size → (Value.slice ao i cp).ownBlock ≠ some k → w3.heap[k]? = w1.heap[k]? := fun k hk hne => (hg.block k (by omega) (fun e => hne e.symm)).trans (Below.heap_alloc (w1.drewN mm) ob k hk)
  have ht1 : w.heap.size + 1 < w1.heap.size := (Array.getElem?_eq_some_iff.1 h.t).1
  have hb : w3.heap[w.heap.size + 1]? = _ := (hblk _ ht1 (fun e => by have := h.far _ e; omega)).trans h.t
  refine ⟨by rw [cell_block hb]; rfl, by simp [World.frozen?, hb], Gw.more h ht hlo hlo2 (by rw [hl]; exact hown) (by have := hg.size; omega) ⟨hg.os, hg.tape, hg.output⟩ hblk ?_⟩
  rcases hat with e | e
  · exact .inl e
  · refine .inr fun r hr => ?_
    rw [e] at hr; cases hr; omega
theorem Gw.done {w wr : World} {o : Nx} {v : Value} {ts : List Tr} {ps : List Nat} (h : Gw w wr o v ts ps) (hs : o.key.size ≤ maxLen) : TrIn wr (fun k => w.heap.size ≤ k ∧ k < wr.heap.size) (mkT o ts) (w.heap.size + 1) := by
  show TrIn _ _ (Tr.node _ _ _ _ _ _) _
  rw [TrIn]
  have ht1 : w.heap.size + 1 < wr.heap.size := (Array.getElem?_eq_some_iff.1 h.t).1
  exact ⟨⟨by omega, ht1⟩, hs, v, ps, h.t, fun r hr => ⟨by have := h.far r hr; omega, (h.own.lt r hr).2⟩, h.own, TrsIn.turn (fun k hk => ⟨⟨by omega, hk.2.1⟩, by omega⟩) (fun k hk => rfl) ts ps h.kids⟩
theorem GrE.of {w : World} {r : Option (Tr × Nat)} {e : Ending} {w' : World} (hr : r = none) (he : e = .returned (.tuple #[.pointer none, .int .i64 0])) (hb : Below w.heap.size w w') : GrE w r e w' := GrE.no hr hb he
end Go.Proofs.YtmmnpnhffgpchaaGreatDoor

/-
  Depth, May: given what is said of unlikeKeys and noKeys.
-/
namespace Go.Proofs.YtmmnpnhffgpchaaGreatDoor
open Go.RowKit
set_option linter.unusedVariables false
set_option linter.unusedSimpArgs false
set_option maxRecDepth 100000
/-- the height of a whole tree -/
def depR (l : List Nx) : Nat := match subT l 16 0 with | some (e, h) => if e = l.length then h else 0 | none => 0
/-- what Depth answers -/
def depF (l : List Nx) : Nat := match l[0]? with
  | none => 0
  | some o => if l.length ≤ 4096 ∧ o.key = ByteArray.empty then depR l else 0
end Go.Proofs.YtmmnpnhffgpchaaGreatDoor

/-
  The document's May, Depth and deep.
-/
namespace Go.Proofs.YtmmnpnhffgpchaaGreatDoor
open Go.RowKit
set_option linter.unusedVariables false
set_option linter.unusedSimpArgs false
set_option maxRecDepth 100000
theorem high_pos (t : Tr) : 0 < t.high := by cases t; simp [Tr.high]
/-- a whole tree -/
def Whole (l : List Nx) (t : Tr) : Prop := l.length ≤ 4096 ∧ trT l 16 0 = some (t, l.length) ∧ t.key = ByteArray.empty
theorem whole_dep {l : List Nx} {t : Tr} (h : Whole l t) : depF l = t.high := by
  obtain ⟨h1, h2, h3⟩ := h
  obtain ⟨o, ho, hk⟩ := trT_key h2
  have hs := sub_tr l 16 0
  rw [h2] at hs
  unfold depF
  rw [ho]
  dsimp only
  rw [if_pos ⟨h1, by rw [← hk]; exact h3⟩]
  unfold depR
  rw [hs]
  simp
theorem dep_whole {l : List Nx} (h : 0 < depF l) : ∃ t, Whole l t := by
  unfold depF at h
  rcases ho : l[0]? with _ | o
  · rw [ho] at h; simp at h
  · rw [ho] at h
    dsimp only at h
    split at h
    · rename_i h1
      unfold depR at h
      rw [sub_tr] at h
      rcases ht : trT l 16 0 with _ | ⟨t, e⟩
      · rw [ht] at h; simp at h
      · rw [ht] at h
        simp only [Option.map] at h
        split at h
        · rename_i he
          subst he
          obtain ⟨o2, ho2, hk⟩ := trT_key ht
          rw [ho] at ho2; cases ho2
          exact ⟨t, h1.1, ht, by rw [hk]; exact h1.2⟩
        · omega
    · omega
theorem not_whole {l : List Nx} (h : ∀ t, ¬ Whole l t) : depF l = 0 := by
  by_cases h0 : 0 < depF l
  · obtain ⟨t, ht⟩ := dep_whole h0; exact absurd ht (h t)
  · omega
theorem whole_may {l : List Nx} {t : Tr} (h : Whole l t) : decide (0 < depF l) = true := by rw [whole_dep h]; simpa using high_pos t
theorem not_may {l : List Nx} (h : ∀ t, ¬ Whole l t) : decide (0 < depF l) = false := by rw [not_whole h]; rfl
theorem high_kid {ts : List Tr} {i : Nat} {t : Tr} (h : ts[i]? = some t) : t.high ≤ highs ts := by
  induction ts generalizing i with
  | nil => simp at h
  | cons x ts ih =>
    cases i with
    | zero => simp at h; subst h; simp [highs]; omega
    | succ i => have := ih (i := i) (by simpa using h); simp [highs]; omega
theorem highs_take_succ {ts : List Tr} {i : Nat} {t : Tr} (h : ts[i]? = some t) : highs (ts.take (i + 1)) = max (highs (ts.take i)) t.high := by
  rw [List.take_add_one, h, Option.toList_some, highs_snoc]
theorem highs_take_le (ts : List Tr) (i : Nat) : highs (ts.take i) ≤ highs ts := by
  induction ts generalizing i with
  | nil => simp
  | cons x ts ih =>
    cases i with
    | zero => simp [highs]
    | succ i => have := ih i; simp [highs]; omega
end Go.Proofs.YtmmnpnhffgpchaaGreatDoor
