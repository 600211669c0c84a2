/-
  The document's Grown: a map, or a sequence.
-/
import Derived.Test.YtgododijnogegaaGr1
import Derived.BigQuiet
import Derived.Maps.AppendAt
namespace Go.Proofs.Ytgododijnogegaa
open Go.RowKit
set_option linter.unusedVariables false
set_option linter.unusedSimpArgs false
set_option maxRecDepth 100000
theorem wpList_append_at {P : Program} (w : World) {ops : Array Oper} {rest : List Oper} {o : Oper} {a : Act} {Q : Exit → Act → World → Prop} (hgd : o.guard = none) (s x : Operand) (t : TypeId)
    (hop : o.op = .call { callee := .builtin .append, args := #[s, x], argTypes := #[t, t] })
    (base : Nat) (e : TypeId) (i : TypeInfo) (z : Value) (size bytes : Nat) (h1 : P.underlying t = some (.slice e)) (h2 : P.info? e = some i) (h3 : i.zero = some z) (h4 : i.size = size) (h5 : i.bytes = bytes) (h6 : z.cells.size = size) (h7 : 0 < size)
    (v : Value) (n : Nat) (xs : List Value) (hs : a.eval s = v) (hown : w.ownsRow base e size v n xs)
    (ad : Addr) (m c : Nat) (news : List Value) (hx : a.eval x = .slice (some ad) m c) (hn : news.length = m * size) (hc : ∀ j u, news[j]? = some u → w.cell? (ad.add j) = some u) (h1c : ∀ u ∈ news, u.oneCell' = true)
    (b1 : n + m ≤ maxLen) (b2 : (n + m) * bytes ≤ 140737488355328) (hb : base ≤ w.heap.size)
    (h : ∀ v' w', w'.ownsRow base e size v' (n + m) (xs ++ news) → w.grownBy w' v.ownBlock → (v'.ownBlock = v.ownBlock ∨ v'.ownBlock = some w.heap.size) → wpList P ops Q rest (a.put o.dst v') w') : wpList P ops Q (o :: rest) a w :=
  wpList_plain hgd fun _ hK => by
    obtain ⟨v', w', hrun, r1, r2, _, r4⟩ := run_append_own_at (P := P) w base t o.type e i z size bytes h1 h2 h3 h4 h5 h6 h7 v n xs hown ad m c news hn hc h1c b1 b2 hb
    unfold Oper.wp
    simp [execOp, hop, resolve, invoke, builtin, hs, hx, hrun, Result.andThen]
    exact hK _ _ (h v' w' r1 r2 r4)
theorem info_parts {P : Program} {t : TypeId} {z : Option Value} {s b : Nat} (h : (P.info? t).map (fun i => (i.zero, i.size, i.bytes)) = some (z, s, b)) : ∃ i, P.info? t = some i ∧ i.zero = z ∧ i.size = s ∧ i.bytes = b := by
  rcases hi : P.info? t with _ | i
  · rw [hi] at h; cases h
  · rw [hi] at h; simp at h; exact ⟨i, rfl, h.1, h.2.1, h.2.2⟩
theorem Try.info58 : (Try.prog.info? 58).map (fun i => (i.zero, i.size, i.bytes)) = some (some (.pointer none), 1, 8) := by kernel_rfl
theorem own_form {w : World} {base : Nat} {e : TypeId} {size : Nat} {v : Value} {n : Nat} {xs : List Value} (h : w.ownsRow base e size v n xs) : ∃ a cp, v = .slice a n cp ∧ (a = none → cp = 0) ∧ n ≤ cp ∧ cp ≤ maxLen := by
  rcases h.2 with ⟨rfl, h0⟩ | ⟨g, cp, cur, rfl, _, _, hc, hm, _⟩
  · subst h0; exact ⟨none, 0, rfl, fun _ => rfl, Nat.le_refl _, by decide⟩
  · exact ⟨_, cp, rfl, (fun h => by cases h), hc, hm⟩
theorem own_some {w : World} {base : Nat} {e : TypeId} {size : Nat} {ao : Option Addr} {n cp : Nat} {xs : List Value} (h : w.ownsRow base e size (.slice ao n cp) n xs) (h0 : 0 < n) : ∃ r, ao = some ⟨r, 0, none⟩ := by
  rcases h.2 with ⟨h1, h2⟩ | ⟨g, cp, cur, h1, _⟩
  · omega
  · injection h1 with h1; exact ⟨g, h1⟩
/-- the keys so far are as they should be -/
def kOk (kd : Int) (ts : List Tr) : Prop := if kd = 2 then (ts.map Tr.key).Nodup else ∀ t ∈ ts, t.key = ByteArray.empty
theorem keys_bad2 {l : List Nx} {o : Nx} {ts : List Tr} {t : Tr} {i j : Nat} {t2 : Tr} (hk : o.kd = 2) (h : (ts ++ [t]).map Tr.key = keysOf l (o.ks.take i)) (hj : ts[j]? = some t2) (he : t2.key = t.key) : keysOk l o = false := by
  rw [keysOk, if_pos hk, decide_eq_false_iff_not]
  intro hn
  have h1 : (keysOf l (o.ks.take i)).Nodup := by
    have : keysOf l (o.ks.take i) = (keysOf l o.ks).take i := by simp [keysOf, List.map_take]
    rw [this]; exact hn.sublist (List.take_sublist _ _)
  rw [← h, List.map_append, List.nodup_append] at h1
  exact h1.2.2 t2.key (List.mem_map.2 ⟨t2, List.mem_of_getElem? hj, rfl⟩) t.key (by simp) he
theorem keys_bad3 {l : List Nx} {o : Nx} {ts : List Tr} {t : Tr} {i : Nat} (hk : ¬ o.kd = 2) (h : (ts ++ [t]).map Tr.key = keysOf l (o.ks.take i)) (he : ¬ t.key = ByteArray.empty) : keysOk l o = false := by
  rw [keysOk, if_neg hk, decide_eq_false_iff_not]
  intro hn
  have h1 : t.key ∈ keysOf l (o.ks.take i) := by rw [← h]; simp
  have h2 : keysOf l (o.ks.take i) = (keysOf l o.ks).take i := by simp [keysOf, List.map_take]
  rw [h2] at h1
  exact he (hn _ (List.mem_of_mem_take h1))
theorem keys_step {l : List Nx} {ks : List Int} {ts : List Tr} {t : Tr} {i k f b : Nat} (hi : ks[i]? = some (k : Int)) (ht : trT l f k = some (t, b)) (h : ts.map Tr.key = keysOf l (ks.take i)) : (ts ++ [t]).map Tr.key = keysOf l (ks.take (i + 1)) := by
  obtain ⟨o, ho, hk⟩ := trT_key ht
  rw [keysOf_snoc hi ho, List.map_append, h, List.map_cons, hk]
  rfl
theorem keys_good {l : List Nx} {o : Nx} {ts : List Tr} (h : ts.map Tr.key = keysOf l o.ks) (hk : kOk o.kd ts) : keysOk l o = true := by
  rw [keysOk]
  unfold kOk at hk
  split
  · rename_i h2
    rw [if_pos h2] at hk
    rw [← h]; simpa using hk
  · rename_i h2
    rw [if_neg h2] at hk
    rw [← h, decide_eq_true_iff]
    intro b hb
    obtain ⟨t, ht, rfl⟩ := List.mem_map.1 hb
    exact hk t ht
theorem kOk_nil (kd : Int) : kOk kd [] := by unfold kOk; split <;> simp
theorem kOk_two {ts : List Tr} {t : Tr} (h : kOk 2 ts) (hn : ∀ (j : Nat) t2, ts[j]? = some t2 → ¬ t2.key = t.key) : kOk 2 (ts ++ [t]) := by
  unfold kOk at *
  rw [if_pos rfl] at *
  rw [List.map_append, List.nodup_append]
  refine ⟨h, by simp, fun a ha b hb => ?_⟩
  obtain ⟨t2, ht2, rfl⟩ := List.mem_map.1 ha
  simp at hb; subst hb
  obtain ⟨j, hj⟩ := List.mem_iff_getElem?.1 ht2
  exact hn j t2 hj
theorem kOk_three {ts : List Tr} {t : Tr} (h : kOk 3 ts) (hn : t.key = ByteArray.empty) : kOk 3 (ts ++ [t]) := by
  unfold kOk at *
  rw [if_neg (by decide)] at *
  intro x hx
  rcases List.mem_append.1 hx with hx | hx
  · exact h x hx
  · simp at hx; subst hx; exact hn
/-- the tree under way: its kids so far -/
structure Gw (w wr : World) (o : Nx) (v : Value) (ts : List Tr) (ps : List Nat) : Prop where
  bel : Below w.heap.size w wr
  n : wr.heap[w.heap.size]? = some (.cells o.row.toArray 51 (0, 0))
  t : wr.heap[w.heap.size + 1]? = some (.cells #[.int .i64 o.kd, .string o.key, .string o.tx, .bool o.quo, .int .i64 o.ln, v] 68 (0, 0))
  own : wr.ownsRow 0 58 1 v ts.length (ptrs ps)
  far : ∀ r, v.ownBlock = some r → w.heap.size + 1 < r
  kids : TrsIn wr (fun k => w.heap.size + 1 < k ∧ k < wr.heap.size ∧ v.ownBlock ≠ some k) ts ps
theorem Gw.start (w : World) (o : Nx) : Gw w ((w.alloc (.cells o.row.toArray 51 (0, 0))).alloc (.cells #[.int .i64 o.kd, .string o.key, .string o.tx, .bool o.quo, .int .i64 o.ln, .slice none 0 0] 68 (0, 0))) o (.slice none 0 0) [] [] := by
  refine ⟨two_alloc _ _ _, ?_, alloc2_new _ _ _, ⟨by simp [ptrs], .inl ⟨rfl, rfl⟩⟩, (fun r h => by cases h), by rw [TrsIn]⟩
  rw [Below.heap_alloc _ _ _ (by simp)]
  exact Go.heap_alloc_new _ _
/-- behind a kid's call -/
theorem Gw.call {w wr w' : World} {o : Nx} {v : Value} {ts : List Tr} {ps : List Nat} (h : Gw w wr o v ts ps) (hb : Below wr.heap.size wr w') : Gw w w' o v ts ps := by
  have hs : ∀ {k : Nat} {x : Obj}, wr.heap[k]? = some x → w'.heap[k]? = some x := fun {k x} hk => (hb.block k (Array.getElem?_eq_some_iff.1 hk).1).trans hk
  refine ⟨h.bel.trans (hb.mono h.bel.size), hs h.n, hs h.t, own_block h.own (fun k hk => hb.block k (h.own.lt k hk).2), h.far, ?_⟩
  exact TrsIn.turn (fun k hk => ⟨hk.1, Nat.lt_of_lt_of_le hk.2.1 hb.size, hk.2.2⟩) (fun k hk => hb.block k hk.2.1) ts ps h.kids
/-- a kid more: appended, and stored -/
theorem Gw.more {w wr w' : World} {o : Nx} {v v' : Value} {ts : List Tr} {ps : List Nat} {t : Tr} {p : Nat} {lo : Nat} (h : Gw w wr o v ts ps) (ht : TrIn wr (fun k => lo ≤ k ∧ k < wr.heap.size) t p) (hlo : w.heap.size + 1 < lo) (hlo2 : ∀ r, v.ownBlock = some r → r < lo)
    (hown : w'.ownsRow 0 58 1 v' (ts.length + 1) (ptrs ps ++ [.pointer (some ⟨p, 0, none⟩)])) (hsz : wr.heap.size ≤ w'.heap.size) (hos : w'.os = wr.os ∧ w'.tape = wr.tape ∧ w'.output = wr.output) (hblk : ∀ k, k < wr.heap.size → v.ownBlock ≠ some k → w'.heap[k]? = wr.heap[k]?) (hv' : v'.ownBlock = v.ownBlock ∨ ∀ r, v'.ownBlock = some r → wr.heap.size ≤ r) :
    Gw w (w'.setCell ⟨w.heap.size + 1, 5, none⟩ v') o v' (ts ++ [t]) (ps ++ [p]) := by
  have hfar' : ∀ r, v'.ownBlock = some r → w.heap.size + 1 < r := by
    intro r hr
    rcases hv' with e | e
    · exact h.far r (e ▸ hr)
    · have := e r hr
      have := (Array.getElem?_eq_some_iff.1 h.t).1
      omega
  have ht1 : w.heap.size + 1 < wr.heap.size := (Array.getElem?_eq_some_iff.1 h.t).1
  have hn : ∀ k, k ≤ w.heap.size + 1 → w'.heap[k]? = wr.heap[k]? := fun k hk => hblk k (by omega) (fun e => by have := h.far k e; omega)
  have ho : ∀ k, k ≠ w.heap.size + 1 → (w'.setCell ⟨w.heap.size + 1, 5, none⟩ v').heap[k]? = w'.heap[k]? := fun k hk => Below.heap_setCell _ _ _ _ hk
  refine ⟨?_, ?_, ?_, ?_, hfar', ?_⟩
  · refine h.bel.trans ⟨hos.1, hos.2.1, hos.2.2, ?_, fun k hk => ?_⟩
    · simpa [World.setCell] using hsz
    · rw [ho k (by omega), hn k (by omega)]
  · rw [ho _ (by omega), hn _ (by omega)]; exact h.n
  · rw [heap_setCell_same w' (w.heap.size + 1) 5 _ 68 _ ((hn _ (by omega)).trans h.t)]; rfl
  · refine own_block (w := w') (n := (ts ++ [t]).length) (xs := ptrs (ps ++ [p])) ?_ (fun k hk => ho k (by have := hfar' k hk; omega))
    simpa [ptrs] using hown
  · have hszc : (w'.setCell ⟨w.heap.size + 1, 5, none⟩ v').heap.size = w'.heap.size := by simp [World.setCell]
    have hF : ∀ k, (w.heap.size + 1 < k ∧ k < wr.heap.size ∧ v.ownBlock ≠ some k) → (w.heap.size + 1 < k ∧ k < (w'.setCell ⟨w.heap.size + 1, 5, none⟩ v').heap.size ∧ v'.ownBlock ≠ some k) := by
      intro k hk
      refine ⟨hk.1, by rw [hszc]; omega, fun e => ?_⟩
      rcases hv' with e2 | e2
      · exact hk.2.2 (e2 ▸ e)
      · have := e2 k e; omega
    have hW : ∀ k, (w.heap.size + 1 < k ∧ k < wr.heap.size ∧ v.ownBlock ≠ some k) → (w'.setCell ⟨w.heap.size + 1, 5, none⟩ v').heap[k]? = wr.heap[k]? := fun k hk => by
      rw [ho k (by omega), hblk k hk.2.1 hk.2.2]
    have hT : ∀ k, (lo ≤ k ∧ k < wr.heap.size) → (w.heap.size + 1 < k ∧ k < wr.heap.size ∧ v.ownBlock ≠ some k) := fun k hk => ⟨by omega, hk.2, fun e => by have := hlo2 k e; omega⟩
    exact TrsIn.snoc (TrIn.turn (fun k hk => hF k (hT k hk)) (fun k hk => hW k (hT k hk)) t p ht) (TrsIn.turn hF hW ts ps h.kids)
theorem Gw.app {w w1 w3 : World} {o : Nx} {ao : Option Addr} {i cp mm lo p : Nat} {ts : List Tr} {ps : List Nat} {t : Tr} {v3 : Value} {ob : Obj} (h : Gw w w1 o (.slice ao i cp) ts ps) (ht : TrIn w1 (fun k => lo ≤ k ∧ k < w1.heap.size) t p) (hlo : w.heap.size + 1 < lo) (hlo2 : ∀ r, (Value.slice ao i cp).ownBlock = some r → r < lo) (hl : ts.length = i)
    (hown : w3.ownsRow 0 58 1 v3 (i + 1) (ptrs ps ++ [.pointer (some ⟨p, 0, none⟩)])) (hg : ((w1.drewN mm).alloc ob).grownBy w3 (Value.slice ao i cp).ownBlock) (hat : v3.ownBlock = (Value.slice ao i cp).ownBlock ∨ v3.ownBlock = some ((w1.drewN mm).alloc ob).heap.size) :
    w3.cell? ⟨w.heap.size + 1, 5, none⟩ = some (.slice ao i cp) ∧ w3.frozen? ⟨w.heap.size + 1, 5, none⟩ = false ∧ Gw w (w3.setCell ⟨w.heap.size + 1, 5, none⟩ v3) o v3 (ts ++ [t]) (ps ++ [p]) := by
  have hsz : ((w1.drewN mm).alloc ob).heap.size = w1.heap.size + 1 := by simp
  have hblk : ∀ k, k < w1.heap.size → (Value.slice ao i cp).ownBlock ≠ some k → w3.heap[k]? = w1.heap[k]? := fun k hk hne => (hg.block k (by omega) (fun e => hne e.symm)).trans (Below.heap_alloc (w1.drewN mm) ob k hk)
  have ht1 : w.heap.size + 1 < w1.heap.size := (Array.getElem?_eq_some_iff.1 h.t).1
  have hb : w3.heap[w.heap.size + 1]? = _ := (hblk _ ht1 (fun e => by have := h.far _ e; omega)).trans h.t
  refine ⟨by rw [cell_block hb]; rfl, by simp [World.frozen?, hb], Gw.more h ht hlo hlo2 (by rw [hl]; exact hown) (by have := hg.size; omega) ⟨hg.os, hg.tape, hg.output⟩ hblk ?_⟩
  rcases hat with e | e
  · exact .inl e
  · refine .inr fun r hr => ?_
    rw [e] at hr; cases hr; omega
theorem Gw.done {w wr : World} {o : Nx} {v : Value} {ts : List Tr} {ps : List Nat} (h : Gw w wr o v ts ps) (hs : o.key.size ≤ maxLen) : TrIn wr (fun k => w.heap.size ≤ k ∧ k < wr.heap.size) (mkT o ts) (w.heap.size + 1) := by
  show TrIn _ _ (Tr.node _ _ _ _ _ _) _
  rw [TrIn]
  have ht1 : w.heap.size + 1 < wr.heap.size := (Array.getElem?_eq_some_iff.1 h.t).1
  exact ⟨⟨by omega, ht1⟩, hs, v, ps, h.t, fun r hr => ⟨by have := h.far r hr; omega, (h.own.lt r hr).2⟩, h.own, TrsIn.turn (fun k hk => ⟨⟨by omega, hk.2.1⟩, by omega⟩) (fun k hk => rfl) ts ps h.kids⟩
set_option maxHeartbeats 8000000 in
theorem grown_map (w : World) (a : Option Addr) (n cap : Nat) (l : List Nx) (q d f : Nat) (o : Nx) (hn : l.length = n) (hl : n ≤ 17592186043904) (hd : d ≤ 16) (hS : Ns w a l) (ho : l[q]? = some o) (hi : isN o = true) (hk : o.kd = 2)
    (ih : ∀ (w : World) (q : Nat), Ns w a l → q ≤ n → Calls Try.prog 30 #[.slice a n cap, .int .i64 q, .int .i64 ((d : Int) + 1)] w (GrE w (trT l f q))) :
    Calls Try.prog 30 #[.slice a n cap, .int .i64 q, .int .i64 d] w (GrE w (trT l (f + 1) q)) := by
  have hqn : q < n := by have := (List.getElem?_eq_some_iff.1 ho).1; omega
  have q0 : (0 : Int) ≤ q := by omega
  have h1' : (q : Int) < n := by omega
  have h2 : ¬ (16 : Int) < d := by omega
  rcases hS.row with hx | ⟨g, off, rfl, hc⟩
  · rw [hx] at ho; simp at ho
  have c0 := hc q _ ho 0 _ rfl
  have c1 := hc q _ ho 1 _ rfl
  have c2 := hc q _ ho 2 _ rfl
  have c3 := hc q _ ho 3 _ rfl
  have c4 := hc q _ ho 4 _ rfl
  have c5 := hc q _ ho 5 _ rfl
  rw [Nat.add_zero] at c0
  have hin := hS.each o (List.mem_of_getElem? ho)
  have HL : Hid (o.ks.length = o.n) := hin.len
  have HS1 : Hid (o.key.size ≤ maxLen) := hin.s1
  have HNK : Hid (Nums w o.a o.ks) := hin.nums
  have hbig := hin.big
  have HT := hideL (trT_at (f := f) ho hi)
  have HKN : Hid (keysOk l o = false → trT l (f + 1) q = none) := fun h => trT_keys ho h
  have HGS := hideL (Gw.start w o)
  obtain ⟨e1, e5, e6, e7⟩ : 0 ≤ o.ln ∧ 0 < o.n ∧ o.tx = ByteArray.empty ∧ o.quo = false := by
    simp [isN, hk] at hi; exact ⟨hi.1.1.1, hi.1.1.2, hi.1.2, hi.2⟩
  have HIH := hideL ih
  have HS := hideL hS
  have HN := hideL hn
  obtain ⟨kd, key, tx, quo, ln, oa, on_, ocap, ks⟩ := o
  dsimp only at c0 c1 c2 c3 c4 c5 hk hbig e1 e5 e6 e7 HL HS1 HNK HT
  subst e6 e7 hk
  have e5' : ((on_ : Int) == 0) = false := by rw [beq_eq_false_iff_ne]; omega
  have e5'' : (0 : Int) < on_ := by omega
  clear hS ho hc hn hi hin ih
  obtain ⟨i58, hi58, hy0, hy1, hy2⟩ := info_parts Try.info58
  go_enter Try.func30, Try.ntmps30
  go_wp2_with fail
  go_loopw [10, 11] (fun u t wr => ∃ (i q' : Nat) (v : Value) (ts : List Tr) (ps : List Nat), u = .int .i64 q' ∧ t = .int .i64 i ∧ i ≤ on_ ∧ q' ≤ n ∧ ts.length = i ∧ Hid (kidsG (trT l f) ks (q + 1) [] = kidsG (trT l f) (ks.drop i) q' ts) ∧ Hid (ts.map Tr.key = keysOf l (ks.take i)) ∧ Hid (kOk 2 ts) ∧ Gw w wr ⟨2, key, ByteArray.empty, false, ln, oa, on_, ocap, ks⟩ v ts ps) (fun _ t _ => on_ - (intOf t).toNat)
  case atStart => exact ⟨0, q + 1, _, [], [], by go_num, rfl, by omega, by omega, rfl, rfl, rfl, kOk_nil _, HGS.out⟩
  case round =>
    obtain ⟨i, q', v, ts, ps, rfl, rfl, hi, hq', htl, HK, HKO0, HKO, hg⟩ := hrel
    have i0 : (0 : Int) ≤ i := by omega
    have q0' : (0 : Int) ≤ q' := by omega
    obtain ⟨ao, cp, rfl, hbare, hic, hcm⟩ := own_form hg.own
    rw [htl] at hg hic
    have HG := hideL hg
    have HTL := hideL htl
    have z0 : wr.cell? ⟨w.heap.size, 0, none⟩ = some (.int .i64 2) := by rw [cell_block hg.n]; rfl
    have z5 : wr.cell? ⟨w.heap.size, 5, none⟩ = some (.slice oa on_ ocap) := by rw [cell_block hg.n]; rfl
    clear hg htl hbare
    by_cases h3 : i < on_
    · have h3' : (i : Int) < on_ := by omega
      rcases hki : ks[i]? with _ | k
      · have := List.getElem?_eq_none_iff.1 hki; have := HL.out; omega
      obtain ⟨x, hx, hcx⟩ := (HNK.out.below HG.out.bel).at_ hki
      subst hx
      have HC := hideL (kidsG_cons (S := trT l f) (q := q') (acc := ts) hki)
      by_cases hkq : k = q'
      · subst hkq
        have HKI := hideL hki
        have HCN : Hid (trT l f q' = none → trT l (f + 1) q = none) := fun h => by
          rw [HT.out, HK.out, HC.out, if_pos rfl, h]
        have HCS : Hid (∀ t b, trT l f q' = some (t, b) → kidsG (trT l f) ks (q + 1) [] = kidsG (trT l f) (ks.drop (i + 1)) b (ts ++ [t])) := fun t b h => by
          rw [HK.out, HC.out, if_pos rfl, h]
        clear hki HC
        go_wp2_with fail
        refine (HIH.out wr q' (HS.out.below HG.out.bel) hq').mono ?_
        rintro e w1 ⟨hb1, hE⟩
        have HG1 := hideL (HG.out.call hb1)
        rcases htr : trT l f q' with _ | ⟨t', b⟩
        · rw [htr] at hE
          dsimp only at hE
          subst hE
          have HNO := hideL (HCN.out htr)
          clear htr hb1 z0 z5
          go_wp2
          go_ret2
          exact GrE.no HNO.out HG1.out.bel rfl
        · rw [htr] at hE
          dsimp only at hE
          obtain ⟨p, rfl, hT⟩ := hE
          have HT1 := hideL hT
          have hbn : b ≤ n := by have := trT_in htr; have := HN.out; omega
          have HKS := hideL (keys_step HKI.out htr HKO0.out)
          have HC2 := hideL (HCS.out t' b htr)
          have y0 : w1.cell? ⟨w.heap.size, 0, none⟩ = some (.int .i64 2) := by rw [cell_block HG1.out.n]; rfl
          have y5 : w1.cell? ⟨w.heap.size + 1, 5, none⟩ = some (.slice ao i cp) := by rw [cell_block HG1.out.t]; rfl
          have hfz : w1.frozen? ⟨w.heap.size + 1, 5, none⟩ = false := by simp [World.frozen?, HG1.out.t]
          have HOW1 : Hid (w1.ownsRow 0 58 1 (.slice ao i cp) i (ptrs ps)) := by have := HG1.out.own; rw [HTL.out] at this; exact this
          have HRL : Hid (∀ r, (Value.slice ao i cp).ownBlock = some r → r < wr.heap.size) := fun r hr => (HG.out.own.lt r hr).2
          have HWS : Hid (w.heap.size + 1 < wr.heap.size) := (Array.getElem?_eq_some_iff.1 HG.out.t).1
          clear htr hb1 hT z0 z5 hcx HG
          go_wp2_with fail
          go_loopw [14] (fun t wr2 => ∃ (j : Nat), t = .int .i64 j ∧ j ≤ i ∧ (∃ m, wr2 = w1.drewN m) ∧ Hid (∀ (j' : Nat) t3, j' < j → ts[j']? = some t3 → ¬ t3.key = t'.key)) (fun t _ => i - (intOf t).toNat)
          case atStart => exact ⟨0, rfl, by omega, ⟨0, rfl⟩, fun j t3 hj _ => by omega⟩
          case round =>
            obtain ⟨j, rfl, hj0, ⟨mm, rfl⟩, HFJ⟩ := hrel
            have j0 : (0 : Int) ≤ j := by omega
            by_cases hj : j < i
            · have hj' : (j : Int) < i := by omega
              obtain ⟨r, rfl⟩ := own_some HOW1.out (by omega)
              rcases htj : ts[j]? with _ | t2
              · have := List.getElem?_eq_none_iff.1 htj; have := HTL.out; omega
              obtain ⟨p2, hp2, hT2⟩ := HG1.out.kids.at_ htj
              have zr : w1.cell? ⟨r, j, none⟩ = some (.pointer (some ⟨p2, 0, none⟩)) := by rw [HOW1.out.cellAt j (by omega)]; exact ptrs_at hp2
              obtain ⟨zk, _, _⟩ := hT2.cells
              obtain ⟨zt, _, _⟩ := HT1.out.cells
              have HTJ := hideL htj
              clear htj hp2 hT2
              by_cases he : t2.key = t'.key
              · have he' : (t2.key.toList == t'.key.toList) = true := by rw [he]; exact ba_eq _
                rw [he] at zk
                go_wp2_with fail
                go_quiet (fail)
                go_wp2
                go_ret2
                exact GrE.no (HKN.out (keys_bad2 rfl HKS.out HTJ.out he)) (below_drewN (below_drewN HG1.out.bel _) _) rfl
              · have he' : (t2.key.toList == t'.key.toList) = false := ba_ne he
                go_wp2_with fail
                go_quiet (fail)
                go_wp2
                go_roundw
                case rel =>
                  refine ⟨j + 1, by go_num, by omega, ⟨mm + nq, rfl⟩, fun j' t3 hj3 ht3 => ?_⟩
                  by_cases hji : j' < j
                  · exact HFJ.out j' t3 hji ht3
                  · obtain rfl : j' = j := by omega
                    rw [HTJ.out] at ht3; cases ht3
                    exact he
                case measure => simp [intOf]; omega
            obtain rfl : j = i := by omega
            have hj' : ¬ (j : Int) < j := by omega
            have HOA : Hid (((w1.drewN mm).alloc (.cells #[.pointer (some ⟨p, 0, none⟩)] 58)).ownsRow 0 58 1 (.slice ao j cp) j (ptrs ps)) := by
              have h0 : (w1.drewN mm).ownsRow 0 58 1 (.slice ao j cp) j (ptrs ps) := HOW1.out
              exact h0.alloc _
            have hbj : (j + 1) * 8 ≤ 140737488355328 := by omega
            have hbm : j + 1 ≤ maxLen := by unfold maxLen; omega
            go_wp2_with (at_builtin; refine wpList_append_at _ rfl (.tmp 148) (.tmp 150) 66 rfl 0 58 i58 (.pointer none) 1 8 Try.underlying66 hi58 hy0 hy1 hy2 rfl (by decide) _ j (ptrs ps) rfl HOA.out ⟨w1.heap.size, 0, none⟩ 1 1 [.pointer (some ⟨p, 0, none⟩)] rfl rfl (World.news_of_block (Go.heap_alloc_new (w1.drewN mm) _)) (by intro u hu; simp at hu; subst hu; rfl) hbm hbj (Nat.zero_le _) ?_; intro v3 w3 hown3 hgrow3 hat3; obtain ⟨x3, f3, G3⟩ := Gw.app HG1.out HT1.out HWS.out (fun r hr => HRL.out r hr) HTL.out hown3 hgrow3 hat3; have HG3 := hideL G3; obtain ⟨a3, k3, rfl, _⟩ := own_form hown3; clear hown3 hgrow3 hat3 G3)
            go_roundw
            case rel => exact ⟨j + 1, b, _, ts ++ [t'], ps ++ [p], rfl, by go_num, by omega, hbn, by simp [HTL.out], HC2, HKS, kOk_two HKO.out (fun j' t3 ht3 => HFJ.out j' t3 (by have := (List.getElem?_eq_some_iff.1 ht3).1; have := HTL.out; omega) ht3), HG3.out⟩
            case measure => simp [intOf]; omega
      · have HNO : Hid (trT l (f + 1) q = none) := by
          show _ = none
          rw [HT.out, HK.out, HC.out, if_neg hkq]
        clear hki
        go_wp2
        go_ret2
        exact GrE.no HNO.out HG.out.bel rfl
    · have h3' : ¬ (i : Int) < on_ := by omega
      have HFI : Hid (trT l (f + 1) q = some (mkT ⟨2, key, ByteArray.empty, false, ln, oa, on_, ocap, ks⟩ ts, q')) := by
        show _ = _
        have hT : ks.take i = ks := List.take_of_length_le (by rw [HL.out]; omega)
        have h1 := HKO0.out
        rw [hT] at h1
        rw [HT.out, HK.out, kidsG_end (by rw [HL.out]; omega)]
        have := keys_good (o := ⟨2, key, ByteArray.empty, false, ln, oa, on_, ocap, ks⟩) h1 HKO.out
        simp [this]
      go_wp2
      go_ret2
      rw [HFI.out]
      exact ⟨HG.out.bel, _, rfl, HG.out.done HS1.out⟩
set_option maxHeartbeats 8000000 in
theorem grown_seq (w : World) (a : Option Addr) (n cap : Nat) (l : List Nx) (q d f : Nat) (o : Nx) (hn : l.length = n) (hl : n ≤ 17592186043904) (hd : d ≤ 16) (hS : Ns w a l) (ho : l[q]? = some o) (hi : isN o = true) (hk : o.kd = 3)
    (ih : ∀ (w : World) (q : Nat), Ns w a l → q ≤ n → Calls Try.prog 30 #[.slice a n cap, .int .i64 q, .int .i64 ((d : Int) + 1)] w (GrE w (trT l f q))) :
    Calls Try.prog 30 #[.slice a n cap, .int .i64 q, .int .i64 d] w (GrE w (trT l (f + 1) q)) := by
  have hqn : q < n := by have := (List.getElem?_eq_some_iff.1 ho).1; omega
  have q0 : (0 : Int) ≤ q := by omega
  have h1' : (q : Int) < n := by omega
  have h2 : ¬ (16 : Int) < d := by omega
  rcases hS.row with hx | ⟨g, off, rfl, hc⟩
  · rw [hx] at ho; simp at ho
  have c0 := hc q _ ho 0 _ rfl
  have c1 := hc q _ ho 1 _ rfl
  have c2 := hc q _ ho 2 _ rfl
  have c3 := hc q _ ho 3 _ rfl
  have c4 := hc q _ ho 4 _ rfl
  have c5 := hc q _ ho 5 _ rfl
  rw [Nat.add_zero] at c0
  have hin := hS.each o (List.mem_of_getElem? ho)
  have HL : Hid (o.ks.length = o.n) := hin.len
  have HS1 : Hid (o.key.size ≤ maxLen) := hin.s1
  have HNK : Hid (Nums w o.a o.ks) := hin.nums
  have hbig := hin.big
  have HT := hideL (trT_at (f := f) ho hi)
  have HKN : Hid (keysOk l o = false → trT l (f + 1) q = none) := fun h => trT_keys ho h
  have HGS := hideL (Gw.start w o)
  obtain ⟨e1, e5, e6, e7⟩ : 0 ≤ o.ln ∧ 0 < o.n ∧ o.tx = ByteArray.empty ∧ o.quo = false := by
    simp [isN, hk] at hi; exact ⟨hi.1.1.1, hi.1.1.2, hi.1.2, hi.2⟩
  have HIH := hideL ih
  have HS := hideL hS
  have HN := hideL hn
  obtain ⟨kd, key, tx, quo, ln, oa, on_, ocap, ks⟩ := o
  dsimp only at c0 c1 c2 c3 c4 c5 hk hbig e1 e5 e6 e7 HL HS1 HNK HT
  subst e6 e7 hk
  have e5' : ((on_ : Int) == 0) = false := by rw [beq_eq_false_iff_ne]; omega
  have e5'' : (0 : Int) < on_ := by omega
  clear hS ho hc hn hi hin ih
  obtain ⟨i58, hi58, hy0, hy1, hy2⟩ := info_parts Try.info58
  go_enter Try.func30, Try.ntmps30
  go_wp2_with fail
  go_loopw [10, 11] (fun u t wr => ∃ (i q' : Nat) (v : Value) (ts : List Tr) (ps : List Nat), u = .int .i64 q' ∧ t = .int .i64 i ∧ i ≤ on_ ∧ q' ≤ n ∧ ts.length = i ∧ Hid (kidsG (trT l f) ks (q + 1) [] = kidsG (trT l f) (ks.drop i) q' ts) ∧ Hid (ts.map Tr.key = keysOf l (ks.take i)) ∧ Hid (kOk 3 ts) ∧ Gw w wr ⟨3, key, ByteArray.empty, false, ln, oa, on_, ocap, ks⟩ v ts ps) (fun _ t _ => on_ - (intOf t).toNat)
  case atStart => exact ⟨0, q + 1, _, [], [], by go_num, rfl, by omega, by omega, rfl, rfl, rfl, kOk_nil _, HGS.out⟩
  case round =>
    obtain ⟨i, q', v, ts, ps, rfl, rfl, hi, hq', htl, HK, HKO0, HKO, hg⟩ := hrel
    have i0 : (0 : Int) ≤ i := by omega
    have q0' : (0 : Int) ≤ q' := by omega
    obtain ⟨ao, cp, rfl, hbare, hic, hcm⟩ := own_form hg.own
    rw [htl] at hg hic
    have HG := hideL hg
    have HTL := hideL htl
    have z0 : wr.cell? ⟨w.heap.size, 0, none⟩ = some (.int .i64 3) := by rw [cell_block hg.n]; rfl
    have z5 : wr.cell? ⟨w.heap.size, 5, none⟩ = some (.slice oa on_ ocap) := by rw [cell_block hg.n]; rfl
    clear hg htl hbare
    by_cases h3 : i < on_
    · have h3' : (i : Int) < on_ := by omega
      rcases hki : ks[i]? with _ | k
      · have := List.getElem?_eq_none_iff.1 hki; have := HL.out; omega
      obtain ⟨x, hx, hcx⟩ := (HNK.out.below HG.out.bel).at_ hki
      subst hx
      have HC := hideL (kidsG_cons (S := trT l f) (q := q') (acc := ts) hki)
      by_cases hkq : k = q'
      · subst hkq
        have HKI := hideL hki
        have HCN : Hid (trT l f q' = none → trT l (f + 1) q = none) := fun h => by
          rw [HT.out, HK.out, HC.out, if_pos rfl, h]
        have HCS : Hid (∀ t b, trT l f q' = some (t, b) → kidsG (trT l f) ks (q + 1) [] = kidsG (trT l f) (ks.drop (i + 1)) b (ts ++ [t])) := fun t b h => by
          rw [HK.out, HC.out, if_pos rfl, h]
        clear hki HC
        go_wp2_with fail
        refine (HIH.out wr q' (HS.out.below HG.out.bel) hq').mono ?_
        rintro e w1 ⟨hb1, hE⟩
        have HG1 := hideL (HG.out.call hb1)
        rcases htr : trT l f q' with _ | ⟨t', b⟩
        · rw [htr] at hE
          dsimp only at hE
          subst hE
          have HNO := hideL (HCN.out htr)
          clear htr hb1 z0 z5
          go_wp2
          go_ret2
          exact GrE.no HNO.out HG1.out.bel rfl
        · rw [htr] at hE
          dsimp only at hE
          obtain ⟨p, rfl, hT⟩ := hE
          have HT1 := hideL hT
          have hbn : b ≤ n := by have := trT_in htr; have := HN.out; omega
          have HKS := hideL (keys_step HKI.out htr HKO0.out)
          have HC2 := hideL (HCS.out t' b htr)
          have y0 : w1.cell? ⟨w.heap.size, 0, none⟩ = some (.int .i64 3) := by rw [cell_block HG1.out.n]; rfl
          have y5 : w1.cell? ⟨w.heap.size + 1, 5, none⟩ = some (.slice ao i cp) := by rw [cell_block HG1.out.t]; rfl
          have hfz : w1.frozen? ⟨w.heap.size + 1, 5, none⟩ = false := by simp [World.frozen?, HG1.out.t]
          have HOW1 : Hid (w1.ownsRow 0 58 1 (.slice ao i cp) i (ptrs ps)) := by have := HG1.out.own; rw [HTL.out] at this; exact this
          have HRL : Hid (∀ r, (Value.slice ao i cp).ownBlock = some r → r < wr.heap.size) := fun r hr => (HG.out.own.lt r hr).2
          have HWS : Hid (w.heap.size + 1 < wr.heap.size) := (Array.getElem?_eq_some_iff.1 HG.out.t).1
          clear htr hb1 hT z0 z5 hcx HG
          go_wp2_with fail
          go_loopw [14] (fun t wr2 => ∃ (j : Nat), t = .int .i64 j ∧ j ≤ i ∧ (∃ m, wr2 = w1.drewN m) ∧ Hid (∀ (j' : Nat) t3, j' < j → ts[j']? = some t3 → True)) (fun t _ => i - (intOf t).toNat)
          case atStart => exact ⟨0, rfl, by omega, ⟨0, rfl⟩, fun j t3 hj _ => by omega⟩
          case round =>
            obtain ⟨j, rfl, hj0, ⟨mm, rfl⟩, HFJ⟩ := hrel
            have j0 : (0 : Int) ≤ j := by omega
            by_cases hj : j < i
            · have hj' : (j : Int) < i := by omega
              go_wp2_with fail
              go_quiet (fail)
              go_wp2
              go_roundw
              case rel => exact ⟨j + 1, by go_num, by omega, ⟨mm + nq, rfl⟩, fun j' t3 hj3 ht3 => by trivial⟩
              case measure => simp [intOf]; omega
            obtain rfl : j = i := by omega
            have hj' : ¬ (j : Int) < j := by omega
            obtain ⟨zt, _, _⟩ := HT1.out.cells
            by_cases hke0 : ¬ t'.key = ByteArray.empty
            · have hke' := isEmpty_no hke0
              go_wp2
              go_ret2
              exact GrE.no (HKN.out (keys_bad3 (by show ¬ (3 : Int) = 2; decide) HKS.out hke0)) (below_drewN HG1.out.bel _) rfl
            have hke : t'.key = ByteArray.empty := Classical.not_not.1 hke0
            rw [hke] at zt
            have HKE := hideL hke
            clear hke0 hke
            have HOA : Hid (((w1.drewN mm).alloc (.cells #[.pointer (some ⟨p, 0, none⟩)] 58)).ownsRow 0 58 1 (.slice ao j cp) j (ptrs ps)) := by
              have h0 : (w1.drewN mm).ownsRow 0 58 1 (.slice ao j cp) j (ptrs ps) := HOW1.out
              exact h0.alloc _
            have hbj : (j + 1) * 8 ≤ 140737488355328 := by omega
            have hbm : j + 1 ≤ maxLen := by unfold maxLen; omega
            go_wp2_with (at_builtin; refine wpList_append_at _ rfl (.tmp 148) (.tmp 150) 66 rfl 0 58 i58 (.pointer none) 1 8 Try.underlying66 hi58 hy0 hy1 hy2 rfl (by decide) _ j (ptrs ps) rfl HOA.out ⟨w1.heap.size, 0, none⟩ 1 1 [.pointer (some ⟨p, 0, none⟩)] rfl rfl (World.news_of_block (Go.heap_alloc_new (w1.drewN mm) _)) (by intro u hu; simp at hu; subst hu; rfl) hbm hbj (Nat.zero_le _) ?_; intro v3 w3 hown3 hgrow3 hat3; obtain ⟨x3, f3, G3⟩ := Gw.app HG1.out HT1.out HWS.out (fun r hr => HRL.out r hr) HTL.out hown3 hgrow3 hat3; have HG3 := hideL G3; obtain ⟨a3, k3, rfl, _⟩ := own_form hown3; clear hown3 hgrow3 hat3 G3)
            go_roundw
            case rel => exact ⟨j + 1, b, _, ts ++ [t'], ps ++ [p], rfl, by go_num, by omega, hbn, by simp [HTL.out], HC2, HKS, kOk_three HKO.out HKE.out, HG3.out⟩
            case measure => simp [intOf]; omega
      · have HNO : Hid (trT l (f + 1) q = none) := by
          show _ = none
          rw [HT.out, HK.out, HC.out, if_neg hkq]
        clear hki
        go_wp2
        go_ret2
        exact GrE.no HNO.out HG.out.bel rfl
    · have h3' : ¬ (i : Int) < on_ := by omega
      have HFI : Hid (trT l (f + 1) q = some (mkT ⟨3, key, ByteArray.empty, false, ln, oa, on_, ocap, ks⟩ ts, q')) := by
        show _ = _
        have hT : ks.take i = ks := List.take_of_length_le (by rw [HL.out]; omega)
        have h1 := HKO0.out
        rw [hT] at h1
        rw [HT.out, HK.out, kidsG_end (by rw [HL.out]; omega)]
        have := keys_good (o := ⟨3, key, ByteArray.empty, false, ln, oa, on_, ocap, ks⟩) h1 HKO.out
        simp [this]
      go_wp2
      go_ret2
      rw [HFI.out]
      exact ⟨HG.out.bel, _, rfl, HG.out.done HS1.out⟩
theorem GrE.of {w : World} {r : Option (Tr × Nat)} {e : Ending} {w' : World} (hr : r = none) (he : e = .returned (.tuple #[.pointer none, .int .i64 0])) (hb : Below w.heap.size w w') : GrE w r e w' := GrE.no hr hb he
/-- Grown, whole -/
theorem grown_any (a : Option Addr) (n cap : Nat) (l : List Nx) (hn : l.length = n) (hl : n ≤ 17592186043904) : ∀ (f d : Nat), d + f = 17 → ∀ (w : World) (q : Nat), Ns w a l → q ≤ n →
    Calls Try.prog 30 #[.slice a n cap, .int .i64 q, .int .i64 d] w (GrE w (trT l f q)) := by
  intro f
  induction f with
  | zero =>
    intro d hd w q hS hq
    exact (grown_out w a n cap l q d hn hl (by omega) (by omega) (.inr (by omega))).mono fun e w' ⟨he, hw⟩ => GrE.of rfl he (hw ▸ Below.refl _ _)
  | succ f ih =>
    intro d hd w q hS hq
    rcases ho : l[q]? with _ | o
    · have h1 := List.getElem?_eq_none_iff.1 ho
      exact (grown_out w a n cap l q d hn hl (by omega) (by omega) (.inl (by omega))).mono fun e w' ⟨he, hw⟩ => GrE.of (trT_out h1) he (hw ▸ Below.refl _ _)
    · by_cases hi : isN o = true
      · have hk : o.kd = 1 ∨ o.kd = 2 ∨ o.kd = 3 := by
          by_cases h1 : o.kd = 1
          · exact .inl h1
          · by_cases h2 : o.kd = 2 ∨ o.kd = 3
            · exact .inr h2
            · simp [isN, h1, h2] at hi
        have ih' : ∀ (w : World) (q : Nat), Ns w a l → q ≤ n → Calls Try.prog 30 #[.slice a n cap, .int .i64 q, .int .i64 ((d : Int) + 1)] w (GrE w (trT l f q)) := fun w q hS hq => by
          have := ih (d + 1) (by omega) w q hS hq
          rwa [Int.natCast_add] at this
        rcases hk with hk | hk | hk
        · exact grown_leaf w a n cap l q d o hn hl (by omega) hS ho hi hk f
        · exact grown_map w a n cap l q d f o hn hl (by omega) hS ho hi hk ih'
        · exact grown_seq w a n cap l q d f o hn hl (by omega) hS ho hi hk ih'
      · have hi' : isN o = false := by simpa using hi
        exact (grown_not w a n cap l q d o hn hl (by omega) hS ho hi').mono fun e w' ⟨he, hw⟩ => GrE.of (trT_no ho hi') he hw
end Go.Proofs.Ytgododijnogegaa
