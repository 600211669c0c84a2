import Derived.Test.YtkmohpdcchpndaaCrash
/-
  An operation of a disk ends: in whatever way.
-/
namespace Go.Proofs.Ytkmohpdcchpndaa
open Go.RowKit Go.Maps
set_option linter.unusedVariables false
set_option linter.unusedSimpArgs false
set_option maxRecDepth 100000
/-- one operation less to the failure -/
def tick : Option Am → Option Am
  | none => none
  | some a => some { a with after := a.after - 1 }
theorem Dk.ticked {w : World} {base d : Nat} {x : Dr} {a : Am} {fo : Option (DataW Unit)} {nf made : Nat} {es : List En} {lab : Nat → Nat} (h : Dk w base d x (some a) fo nf made es lab) {k : Nat} (hk : a.after = k + 1) :
    Dk (w.setCell ⟨a.b, 0, none⟩ (.int .i64 k)) base d x (some { a with after := k }) fo nf made es lab ∧ Kt w (w.setCell ⟨a.b, 0, none⟩ (.int .i64 k)) d x (some a) es x (some { a with after := k }) es := by
  have hA := h.arm a rfl
  obtain ⟨ty, hb⟩ := hA.blk
  have hla : lab a.b = 2 := h.l2 a rfl
  have hbut : But a.b w (w.setCell ⟨a.b, 0, none⟩ (.int .i64 k)) := But.set 0 _
  have samel : ∀ j, j < w.heap.size → lab j ≠ 2 → (w.setCell ⟨a.b, 0, none⟩ (.int .i64 k)).heap[j]? = w.heap[j]? := fun j hj hn => hbut.block j hj (fun e => hn (e ▸ hla))
  refine ⟨{ h with dir := ?_, fm := ?_, c2 := h.c2, arm := ?_, fil := ?_, l2 := ?_, l2g := ?_ }, ?_⟩
  · exact h.dir.keep (fun j hj => samel j (h.dir.lt j hj).2 (by have := h.l0 j hj; omega)) (fun c hc j hj => samel j ((h.dir.chg c hc).lt j hj).2 (by have := h.l3 c hc j hj; omega))
  · exact h.fm.keep fun j hj => samel j (h.fm.low hj).2 (by have := h.l1 j hj; omega)
  · intro a' e
    cases e
    obtain ⟨ao, cap, h1, h2⟩ := hA.row
    refine ⟨⟨ty, by rw [block_setCell hb 0 _]; rfl⟩, hA.low, by have := hA.aft; show k < _; omega, ⟨ao, cap, h1, h2.imp id fun ⟨g, off, e, hm, hc⟩ => ⟨g, off, e, hm, fun j hj => ?_⟩⟩, hA.rng, hA.few, fun j hj => ⟨(hA.lt j hj).1, by simpa using (hA.lt j hj).2⟩⟩
    exact (World.cell?_of_block (w := w) (samel g (hA.lt g hm).2 (by have := h.l2g a rfl g hm; omega))).trans (hc j hj)
  · intro y hy
    exact (h.fil y hy).keep (fun j hj => samel j ((h.fil y hy).lt j hj).2 (by have := h.l4 y hy j hj; omega)) (fun c hc j hj => samel j (((h.fil y hy).chg c hc).lt j hj).2 (by have := h.l3e y hy c hc j hj; omega))
  · intro a' e; cases e; exact hla
  · intro a' e; cases e; exact h.l2g a rfl
  · refine ⟨rfl, rfl, rfl, by simp, fun j hj hn => hbut.block j hj fun e => hn (.inr (.inr (.inl ⟨a, rfl, e⟩))), fun j hj => ?_⟩
    rcases hj with hj | hj | ⟨a', e, hj⟩ | hj
    · exact .inl (.inl hj)
    · exact .inl (.inr (.inl hj))
    · cases e; exact .inl (.inr (.inr (.inl ⟨a, rfl, hj⟩)))
    · exact .inl (.inr (.inr (.inr hj)))
theorem Ans.mono {n : Nat} {args : Array Value} {w : World} {Q Q' : Int → World → Prop} (h : Ans n args w Q) (hq : ∀ v w', Q v w' → Q' v w') : Ans n args w Q' := Calls.mono h fun e w' ⟨v, he, hv⟩ => ⟨v, he, hq v w' hv⟩
/-- an operation ends and the power does not fail -/
theorem done_on (w : World) (base d : Nat) (x : Dr) (am : Option Am) (fo : Option (DataW Unit)) (nf made : Nat) (es : List En) (lab : Nat → Nat) (h : Dk w base d x am fo nf made es lab) (hgo : goesB am = false) :
    Ans 34 #[.pointer (some ⟨d, 0, none⟩)] w fun v w' => v = 0 ∧ Dk w' base d x (tick am) fo nf made es lab ∧ Kt w w' d x am es x (tick am) es := by
  have h2 : w.cell? ⟨d, 2, none⟩ = some x.c2 := by rw [cell_block h.dir.blk]; rfl
  rw [h.c2] at h2
  cases am with
  | none =>
    refine (done_none d w h2).mono ?_
    rintro e w' ⟨rfl, rfl⟩
    exact ⟨0, rfl, rfl, h, Kt.refl _ _ _ _ _⟩
  | some a =>
    obtain ⟨ty, hb⟩ := (h.arm a rfl).blk
    obtain ⟨k, hk⟩ : ∃ k, a.after = k + 1 := by
      have : a.after ≠ 0 := by simpa [goesB] using hgo
      exact ⟨a.after - 1, by omega⟩
    have haft := (h.arm a rfl).aft
    obtain ⟨k1, k2⟩ := h.ticked hk
    rw [hk] at hb
    refine (done_later d a.b k w h2 (by rw [cell_block hb]; rfl) (by simp [World.frozen?, hb]) (by omega)).mono ?_
    rintro e w' ⟨rfl, rfl⟩
    have e1 : tick (some a) = some { a with after := k } := by simp [tick, hk]
    rw [e1]
    exact ⟨0, rfl, rfl, k1, k2⟩
/-- an operation in which the power fails -/
theorem done_off (w : World) (base d : Nat) (x : Dr) (a : Am) (fo : Option (DataW Unit)) (nf made : Nat) (es : List En) (lab : Nat → Nat) (h : Dk w base d x (some a) fo nf made es lab) (hgo : goesB (some a) = true) (hup : x.c1 = .bool false) (hls : ∀ e ∈ es, e.f.ls.length ≤ 1000000000) (hdl : x.ls.length ≤ 1000000000) (hbl : x.bl + x.ls.length < 1000000000) (hmade : made ≤ 1000000000) (hfew : ∀ z i, DLasts x a.cs 0 z i → z.elim 0 Go.Maps.size ≤ 1000000) (hbase : base ≤ w.heap.size) :
    Ans 34 #[.pointer (some ⟨d, 0, none⟩)] w fun v w' => v = 32 ∧ ∃ x' D' nf' es' lab' i1 i2, Crashed w w' base d x (some a) es made a.cs x' D' nf' es' lab' i1 i2 := by
  have hA := h.arm a rfl
  obtain ⟨ty, hb⟩ := hA.blk
  obtain ⟨ao, cap, h1, h2⟩ := hA.row
  have hc2 : w.cell? ⟨d, 2, none⟩ = some x.c2 := by rw [cell_block h.dir.blk]; rfl
  rw [h.c2] at hc2
  replace hc2 : w.cell? ⟨d, 2, none⟩ = some (.pointer (some ⟨a.b, 0, none⟩)) := hc2
  have HG : Hid (Calls Try.prog 31 #[.pointer (some ⟨d, 0, none⟩)] w fun e w' => e = .returned (.bool true) ∧ w' = w) := hgo ▸ goes_dk h
  have HC : Hid (Calls Try.prog 13 #[.pointer (some ⟨d, 0, none⟩), .slice ao a.cs.length cap] w fun e w' => e = .returned (.tuple #[]) ∧ ∃ x' D' nf' es' lab' i1 i2, Crashed w w' base d x (some a) es made a.cs x' D' nf' es' lab' i1 i2) :=
    crash_any w base d x (some a) fo nf made es lab h hup ao a.cs.length cap a.cs a.gl rfl h2 (fun k hk => ⟨h.l2g a rfl k hk, (hA.lt k hk).2⟩) hA.rng hA.few hls hdl hbl hmade hfew hbase
  obtain ⟨CL, hCL⟩ : ∃ CL, a.cs.length = CL := ⟨_, rfl⟩
  have hv : w.cell? ⟨a.b, 1, none⟩ = some (.slice ao CL cap) := by rw [cell_block hb, h1, hCL]; rfl
  rw [hCL] at HC
  clear h hA hls hfew h1 h2 hb hCL
  go_enter Try.func34, Try.ntmps34
  go_wp2_with (first | (go_at_call 31; refine HG.out.mono ?_; rintro e w1 ⟨rfl, hw⟩; have hw := hw.symm; subst hw) | (go_at_call 13; refine HC.out.mono ?_; rintro e w2 ⟨rfl, hc⟩; have HC2 := hide2 hc; clear hc))
  go_ret
  exact ⟨32, rfl, rfl, HC2.out⟩
end Go.Proofs.Ytkmohpdcchpndaa

/-
  A failure of the power is laid in wait.
-/
namespace Go.Proofs.Ytkmohpdcchpndaa
open Go.RowKit Go.Maps
set_option linter.unusedVariables false
set_option linter.unusedSimpArgs false
set_option maxRecDepth 100000
theorem Try.info3 : (Try.prog.info? 3).map (fun i => (i.zero, i.size, i.bytes)) = some (some (.int .i64 0), 1, 8) := by kernel_rfl
abbrev ivals (cs : List Int) : List Value := cs.map (Value.int .i64)
theorem iempty (w : World) : (w.alloc (.cells #[] 3 (0, 0))).ownsRow w.heap.size 3 1 (.slice (some ⟨w.heap.size, 0, none⟩) 0 0) 0 [] :=
  ⟨rfl, .inr ⟨_, 0, _, rfl, Nat.le_refl _, Go.heap_alloc_new w _, Nat.le_refl _, by decide, rfl, rfl⟩⟩
theorem iclone_any (w : World) (a : Option Addr) (n cap : Nat) (cs : List Int) (gl : List Nat) (hl : cs.length = n) (hb : a = none → cap = 0 ∧ cs = []) (hN : Nrs w a cs gl) (hs : n ≤ 17592186044000) :
    Calls Try.prog 50 #[.slice a n cap] w fun e w' => ∃ v, e = .returned v ∧ w'.ownsRow w.heap.size 3 1 v n (ivals cs) ∧ Below w.heap.size w w' := by
  obtain ⟨i0, i0i, hz0, hz1, hz2⟩ := info_parts Try.info3
  cases a with
  | none =>
    obtain ⟨rfl, rfl⟩ := hb rfl
    obtain rfl : n = 0 := by simpa using hl.symm
    have kc : (binOp .eql 23 (.slice none 0 0) (.slice none 0 0)).run Try.prog w = .ok (.bool true) w := Lib.run_eql_slice_nil w 23 3 none 0 0 0 0 Try.underlying23
    clear hb hl hN
    go_enter Try.func50, Try.ntmps50
    go_wp2_with fail
    go_ret
    exact ⟨_, rfl, World.ownsRow_nil _ _ _ _, Below.refl _ _⟩
  | some x =>
    have kc : (binOp .eql 23 (.slice (some x) n cap) (.slice none 0 0)).run Try.prog w = .ok (.bool false) w := Lib.run_eql_slice_nil w 23 3 (some x) n cap 0 0 Try.underlying23
    have HE := hide2 (iempty w)
    have hB : Below w.heap.size w (w.alloc (.cells #[] 3 (0, 0))) := (Below.refl _ _).alloc (Nat.le_refl _) _
    have HW : Hid (∀ j u, (ivals cs)[j]? = some u → (w.alloc (.cells #[] 3 (0, 0))).cell? (x.add j) = some u) := fun j u hj => by
      rw [List.getElem?_map] at hj
      obtain ⟨c, hc, rfl⟩ := Option.map_eq_some_iff.1 hj
      have hjl := (List.getElem?_eq_some_iff.1 hc).1
      rcases hN with h0 | ⟨g, off, e, hm, hcell⟩
      · rw [h0] at hjl; simp at hjl
      · cases e
        rw [Addr.add_lit]
        have := cell_of_below hB (hcell j hjl)
        rw [this]
        simp [List.getD, hc]
    have HL : Hid ((ivals cs).length = n * 1) := (by simp [hl] : (ivals cs).length = n * 1)
    have H1 : Hid (∀ u ∈ ivals cs, u.oneCell' = true) := fun u hu => by
      obtain ⟨z, _, rfl⟩ := List.mem_map.1 hu
      rfl
    clear hb hl hN hB
    go_enter Try.func50, Try.ntmps50
    go_wp2_with (at_builtin; refine wpList_append_own _ rfl (.tmp 5) (.tmp 6) 23 rfl w.heap.size 3 i0 (.int .i64 0) 1 8 Try.underlying23 i0i hz0 hz1 hz2 rfl (by omega) (.slice (some ⟨w.heap.size, 0, none⟩) 0 0) 0 [] rfl HE.out x n cap (ivals cs) rfl HL.out HW.out H1.out (by unfold maxLen; omega) (by omega) (by simp) ?_; intro v2 w2 hb2 hg2 _; have HE2 := hide2 (And.intro hb2 hg2); clear hb2 hg2)
    go_ret
    obtain ⟨e1, e2⟩ := HE2.out
    exact ⟨v2, rfl, by simpa using e1, ((Below.refl _ _).alloc (Nat.le_refl _) _).grown e2 (by simp) (fun k h => by cases h; exact Nat.le_refl _)⟩
theorem Dk.face2 {w w' : World} {base d : Nat} {x : Dr} {am am' : Option Am} {fo : Option (DataW Unit)} {nf made : Nat} {es : List En} {lab lab' : Nat → Nat} (h : Dk w base d x am fo nf made es lab) (hb : But d w w') {c0 c1 c2 : Value} (hblk : w'.heap[d]? = some (.cells #[c0, c1, c2, x.lv, x.lo, x.nv, x.c6, x.c7] 69 (0, 0))) (hc2 : c2 = .pointer (am'.map fun a => ⟨a.b, 0, none⟩)) (rl : ∀ k, k < w.heap.size → lab' k = lab k)
    (ha : ∀ a, am' = some a → AmOk w' base a ∧ lab' a.b = 2 ∧ (∀ k ∈ a.gl, lab' k = 3) ∧ w.heap.size ≤ a.b) :
    Dk w' base d { x with c0 := c0, c1 := c1, c2 := c2 } am' fo nf made es lab' ∧ Kt w w' d x am es { x with c0 := c0, c1 := c1, c2 := c2 } am' es := by
  have hdl : lab d = 0 := h.l0 d (by simp [Dr.mut])
  have same : ∀ k, k < w.heap.size → k ≠ d → w'.heap[k]? = w.heap[k]? := fun k hk hn => hb.block k hk hn
  have samel : ∀ k, k < w.heap.size → lab k ≠ 0 → w'.heap[k]? = w.heap[k]? := fun k hk hn => same k hk (fun e => hn (e ▸ hdl))
  obtain ⟨n1, n2, n3, _⟩ := (nod3 d (mblk x.lv) (mblk x.nv) x.lo.ownBlock).1 h.dir.nod
  have samed : ∀ k ∈ x.mut d, k ≠ d → w'.heap[k]? = w.heap[k]? := fun k hk h1 => same k (h.dir.lt k hk).2 h1
  refine ⟨{ h with dir := ⟨hblk, h.dir.low, ?_, ?_, ?_, ?_, h.dir.nod, h.dir.ap⟩, fm := ?_, c2 := hc2, arm := fun a e => (ha a e).1, fil := ?_, l0 := ?_, l1 := ?_, l2 := fun a e => (ha a e).2.1, l2g := fun a e => (ha a e).2.2.1, l3 := ?_, l3e := ?_, l4 := ?_ }, ?_⟩
  · exact h.dir.last.keep fun k hk => samed k (mem_dmut.2 (.inr (.inl hk))) (fun e => n1 (e ▸ hk))
  · exact h.dir.now.keep fun k hk => samed k (mem_dmut.2 (.inr (.inr (.inl hk)))) (fun e => n2 (e ▸ hk))
  · exact own_keep h.dir.row fun k hk => samed k (mem_dmut.2 (.inr (.inr (.inr hk)))) (fun e => n3 (e ▸ hk))
  · exact fun c hc => (h.dir.chg c hc).keep fun k hk => samel k ((h.dir.chg c hc).lt k hk).2 (by have := h.l3 c hc k hk; omega)
  · exact h.fm.keep fun k hk => samel k (h.fm.low hk).2 (by have := h.l1 k hk; omega)
  · intro y hy
    exact (h.fil y hy).keep (fun k hk => samel k ((h.fil y hy).lt k hk).2 (by have := h.l4 y hy k hk; omega)) (fun c hc k hk => samel k (((h.fil y hy).chg c hc).lt k hk).2 (by have := h.l3e y hy c hc k hk; omega))
  · exact fun k hk => (rl k (h.dir.lt k hk).2).trans (h.l0 k hk)
  · exact fun k hk => (rl k (h.fm.low hk).2).trans (h.l1 k hk)
  · exact fun c hc k hk => (rl k ((h.dir.chg c hc).lt k hk).2).trans (h.l3 c hc k hk)
  · exact fun y hy c hc k hk => (rl k (((h.fil y hy).chg c hc).lt k hk).2).trans (h.l3e y hy c hc k hk)
  · exact fun y hy k hk => (rl k ((h.fil y hy).lt k hk).2).trans (h.l4 y hy k hk)
  · refine ⟨hb.os, hb.tape, hb.output, hb.size, fun k hk hn => same k hk fun e => hn (.inl (e ▸ by simp [Dr.mut])), fun k hk => ?_⟩
    rcases hk with hk | hk | ⟨a, e, hk⟩ | hk
    · exact .inl (.inl hk)
    · exact .inl (.inr (.inl hk))
    · exact .inr (hk ▸ (ha a e).2.2.2)
    · exact .inl (.inr (.inr (.inr hk)))
theorem Dk.armed {w w1 : World} {base d : Nat} {x : Dr} {am : Option Am} {fo : Option (DataW Unit)} {nf made : Nat} {es : List En} {lab : Nat → Nat} (h : Dk w base d x am fo nf made es lab) (hb : Below w.heap.size w w1) {v : Value} {cs : List Int} (hr : w1.ownsRow w.heap.size 3 1 v cs.length (ivals cs)) (hrng : ∀ c ∈ cs, -9223372036854775808 ≤ c ∧ c ≤ 9223372036854775807) (hf : cs.length ≤ 17592186044000) (k : Nat) (hk : k < 9223372036854775808) (hbase : base ≤ w.heap.size) :
    ∃ a lab', a.after = k ∧ a.cs = cs ∧ (∀ j ∈ a.gl, w.heap.size ≤ j) ∧ Dk ((w1.alloc (.cells #[.int .i64 k, v] 98 (0, 0))).setCell ⟨d, 2, none⟩ (.pointer (some ⟨w1.heap.size, 0, none⟩))) base d { x with c2 := .pointer (some ⟨w1.heap.size, 0, none⟩) } (some a) fo nf made es lab' ∧ Kt w ((w1.alloc (.cells #[.int .i64 k, v] 98 (0, 0))).setCell ⟨d, 2, none⟩ (.pointer (some ⟨w1.heap.size, 0, none⟩))) d x am es { x with c2 := .pointer (some ⟨w1.heap.size, 0, none⟩) } (some a) es := by
  have hdw := lt_of_block h.dir.blk
  have s1 := hb.size
  have hb2 : Below w.heap.size w (w1.alloc (.cells #[.int .i64 k, v] 98 (0, 0))) := hb.alloc s1 _
  have hbk2 : (w1.alloc (.cells #[.int .i64 k, v] 98 (0, 0))).heap[d]? = _ := (hb2.block d hdw).trans h.dir.blk
  obtain ⟨ao, cap, hv⟩ := own_slice hr
  obtain ⟨a, ha⟩ : ∃ a : Am, a = ⟨w1.heap.size, v, k, cs, v.ownBlock.toList⟩ := ⟨_, rfl⟩
  have hnl := hr.1
  have hbut : But d w ((w1.alloc (.cells #[.int .i64 k, v] 98 (0, 0))).setCell ⟨d, 2, none⟩ (.pointer (some ⟨w1.heap.size, 0, none⟩))) := (But.of_below hb2).trans (But.set 2 _)
  have oth : ∀ j, j ≠ d → ((w1.alloc (.cells #[.int .i64 k, v] 98 (0, 0))).setCell ⟨d, 2, none⟩ (.pointer (some ⟨w1.heap.size, 0, none⟩))).heap[j]? = (w1.alloc (.cells #[.int .i64 k, v] 98 (0, 0))).heap[j]? := fun j hj => Below.heap_setCell _ _ _ _ (by simpa using hj)
  obtain ⟨lab', hlab⟩ : ∃ lab' : Nat → Nat, lab' = fun j => if j < w.heap.size then lab j else if j = w1.heap.size then 2 else 3 := ⟨_, rfl⟩
  have hown : ∀ j, v.ownBlock = some j → w.heap.size ≤ j ∧ j < w1.heap.size := fun j hj => hr.lt j hj
  obtain ⟨k1, k2⟩ := h.face2 hbut (c0 := x.c0) (c1 := x.c1) (c2 := .pointer (some ⟨w1.heap.size, 0, none⟩)) (am' := some a) (lab' := lab') (by rw [block_setCell hbk2 2 _]; rfl) (by rw [ha]; rfl) (fun j hj => by rw [hlab]; exact if_pos hj) (fun a' e => by
    cases e
    subst ha
    refine ⟨⟨⟨98, ?_⟩, by show base ≤ w1.heap.size; omega, hk, ⟨ao, cap, hv, ?_⟩, hrng, hf, fun j hj => ?_⟩, by rw [hlab]; simp; omega, fun j hj => ?_, s1⟩
    · exact (oth w1.heap.size (by omega)).trans (Go.heap_alloc_new w1 _)
    · by_cases h0 : cs = []
      · exact .inl h0
      · refine .inr ?_
        have hl0 : 0 < cs.length := by cases cs; exact absurd rfl h0; simp
        rcases hr.2 with ⟨_, h'⟩ | ⟨g, cp, cur, e, hg1, hg2, _⟩
        · omega
        · have eao : ao = some ⟨g, 0, none⟩ := by rw [hv] at e; injection e
          refine ⟨g, 0, eao, by rw [e]; simp [Value.ownBlock], fun j hj0 => ?_⟩
          have hj : j < cs.length := hj0
          have hgo := hown g (by rw [e]; rfl)
          rw [e] at hr
          have hc := hr.cellAt j (by omega)
          have hj' : (ivals cs)[j]? = some (.int .i64 (cs.getD j 0)) := by
            rw [List.getElem?_map, List.getElem?_eq_getElem hj]; simp [List.getD, hj]
          rw [hj'] at hc
          rw [Nat.zero_add, ← hc]
          exact World.cell?_of_block (w := w1) ((oth g (by omega)).trans (Below.heap_alloc _ _ g hgo.2))
    · have hj' := hown j (by simpa using hj)
      exact ⟨by omega, by simp; omega⟩
    · have hj' := hown j (by simpa using hj)
      simp only [hlab]
      rw [if_neg (by omega), if_neg (by omega)])
  exact ⟨a, lab', by rw [ha], by rw [ha], by rw [ha]; exact fun j hj => (hown j (by simpa using hj)).1, k1, k2⟩
theorem arm_any (w : World) (base d : Nat) (x : Dr) (am : Option Am) (fo : Option (DataW Unit)) (nf made : Nat) (es : List En) (lab : Nat → Nat) (h : Dk w base d x am fo nf made es lab) (hup : x.c1 = .bool false) (aft : Int) (haf : aft ≤ 9223372036854775807) (a : Option Addr) (n cap : Nat) (cs : List Int) (gl : List Nat) (hl : cs.length = n) (hb : a = none → cap = 0 ∧ cs = []) (hN : Nrs w a cs gl) (hrng : ∀ c ∈ cs, -9223372036854775808 ≤ c ∧ c ≤ 9223372036854775807) (hf : cs.length ≤ 17592186044000) (hbase : base ≤ w.heap.size) :
    Calls Try.prog 25 #[.pointer (some ⟨d, 0, none⟩), .int .i64 aft, .slice a n cap] w fun e w' => e = .returned (.tuple #[]) ∧ ∃ a' lab' x', a'.after = aft.toNat ∧ a'.cs = cs ∧ (∀ j ∈ a'.gl, w.heap.size ≤ j) ∧ Dk w' base d x' (some a') fo nf made es lab' ∧ Kt w w' d x am es x' (some a') es ∧ ∃ c2, x' = { x with c2 := c2 } := by
  have hblk := h.dir.blk
  have hc2 := h.c2
  obtain ⟨c2v, hc2v⟩ : ∃ c2v, x.c2 = .pointer c2v := ⟨_, h.c2⟩
  rw [hup, hc2v] at hblk
  have w1 : w.cell? ⟨d, 1, none⟩ = some (.bool false) := by rw [cell_block hblk]; rfl
  obtain ⟨K, hK⟩ : ∃ K : Nat, (K : Int) = max aft 0 := ⟨aft.toNat, by omega⟩
  have HC : Hid (Calls Try.prog 50 #[.slice a n cap] w fun e w1 => ∃ va vn vc, e = .returned (.slice va vn vc) ∧ w1.cell? ⟨d, 2, none⟩ = some (.pointer c2v) ∧ w1.frozen? ⟨d, 2, none⟩ = false ∧ d < w1.heap.size ∧ ∃ a' lab', a'.after = K ∧ a'.cs = cs ∧ (∀ j ∈ a'.gl, w.heap.size ≤ j) ∧ Dk ((w1.alloc (.cells #[.int .i64 (max aft 0), .slice va vn vc] 98 (0, 0))).setCell ⟨d, 2, none⟩ (.pointer (some ⟨w1.heap.size, 0, none⟩))) base d { x with c2 := .pointer (some ⟨w1.heap.size, 0, none⟩) } (some a') fo nf made es lab' ∧ Kt w ((w1.alloc (.cells #[.int .i64 (max aft 0), .slice va vn vc] 98 (0, 0))).setCell ⟨d, 2, none⟩ (.pointer (some ⟨w1.heap.size, 0, none⟩))) d x am es { x with c2 := .pointer (some ⟨w1.heap.size, 0, none⟩) } (some a') es) := by
    refine (iclone_any w a n cap cs gl hl hb hN (by omega)).mono ?_
    rintro e w1 ⟨v, rfl, hr, hb1⟩
    have hbk1 := (hb1.block d (lt_of_block hblk)).trans hblk
    rw [← hl] at hr
    obtain ⟨va, vc, rfl⟩ := own_slice hr
    exact ⟨va, _, vc, rfl, by rw [cell_block hbk1]; rfl, by simp [World.frozen?, hbk1], lt_of_block hbk1, by rw [← hK]; exact h.armed hb1 hr hrng hf K (by omega) hbase⟩
  clear h hN hrng hb hblk hc2 hc2v hl
  go_enter Try.func25, Try.ntmps25
  go_wp2_with (first | (go_at_call 50; refine HC.out.mono ?_; rintro e w2 ⟨va, vn, vc, rfl, q1, q2, q3, hc⟩; have HC2 := hide2 hc; clear hc))
  go_end0
  obtain ⟨a', lab', e1, e2, e5, e3, e4⟩ := HC2.out
  rw [World.setCell_alloc_past _ _ _ _ q3] at e3 e4
  exact ⟨rfl, a', lab', _, by omega, e2, e5, e3, e4, _, rfl⟩
end Go.Proofs.Ytkmohpdcchpndaa
