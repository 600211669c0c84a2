/-
  A change of a file.
-/
import Derived.Test.YtkmohpdcchpndaaFil
import Derived.Deep.CutRange
import Derived.Deep.DeepCutAuto
import Derived.Maps.AppendAt
namespace Go.Proofs.Ytkmohpdcchpndaa
open Go.RowKit
set_option linter.unusedVariables false
set_option linter.unusedSimpArgs false
set_option maxRecDepth 100000
theorem step_append_at {P : Program} {ops : Array Oper} {o : Oper} {a : Act} {w : World} {K : Act → World → Prop} {Q : Exit → Act → World → Prop} {E : Prop}
    (hg : o.guard = none) (s x : Operand) (t : TypeId) (hop : o.op = Op.call { callee := Callee.builtin Builtin.append, args := #[s, x], argTypes := #[t, t] })
    (base : Nat) (e : TypeId) (i : TypeInfo) (z : Value) (size bytes : Nat) (h1 : P.underlying t = some (.slice e)) (h2 : P.info? e = some i) (h3 : i.zero = some z) (h4 : i.size = size) (h5 : i.bytes = bytes) (h6 : z.cells.size = size) (h7 : 0 < size)
    (v : Value) (n : Nat) (xs : List Value) (hs : a.eval s = v) (hown : w.ownsRow base e size v n xs)
    (ad : Addr) (m c : Nat) (news : List Value) (hx : a.eval x = .slice (some ad) m c) (hn : news.length = m * size) (hc : ∀ j u, news[j]? = some u → w.cell? (ad.add j) = some u) (h1c : ∀ u ∈ news, u.oneCell' = true)
    (b1 : n + m ≤ maxLen) (b2 : (n + m) * bytes ≤ 140737488355328) (hb : base ≤ w.heap.size)
    (hK : ∀ v' w', w'.ownsRow base e size v' (n + m) (xs ++ news) → w.grownBy w' v.ownBlock → (v'.ownBlock = v.ownBlock ∨ v'.ownBlock = some w.heap.size) → K (a.put o.dst v') w') :
    if Region.wanted o (yielded ops a.tmps) = true then Oper.wp P o a w K Q else E := by
  have hw : Region.wanted o (yielded ops a.tmps) = true := by simp [Region.wanted, hg]
  rw [if_pos hw]
  obtain ⟨v', w', hrun, r1, r2, _, r4⟩ := run_append_own_at (P := P) w base t o.type e i z size bytes h1 h2 h3 h4 h5 h6 h7 v n xs hown ad m c news hn hc h1c b1 b2 hb
  unfold Oper.wp
  simp [execOp, hop, resolve, invoke, builtin, hs, hx, hrun, Result.andThen]
  exact hK v' w' r1 r2 r4
theorem own_slice {w : World} {base : Nat} {e : TypeId} {size n : Nat} {v : Value} {xs : List Value} (h : w.ownsRow base e size v n xs) : ∃ a c, v = .slice a n c := by
  rcases h.2 with ⟨rfl, h0⟩ | ⟨g, cp, cur, rfl, _⟩
  · exact ⟨none, 0, by rw [h0]⟩
  · exact ⟨_, _, rfl⟩
theorem Fil.below {w w' : World} {base b : Nat} {f : Fs} (h : Fil w base b f) (hk : ∀ k, k < w.heap.size → w'.heap[k]? = w.heap[k]?) : Fil w' base b f := h.keep (fun k e => hk k (h.lt k e).2) (fun c hc k e => hk k ((h.chg c hc).lt k e).2)
theorem Ft.after {w w0 w' : World} {base b : Nat} {f f' : Fs} (hB : Below w.heap.size w w0) (h : Ft w0 w' base b f f') : Ft w w' base b f f' :=
  ⟨h.fil, ⟨h.turn.os.trans hB.os, h.turn.tape.trans hB.tape, h.turn.output.trans hB.output, Nat.le_trans hB.size h.turn.size, fun k hk hn => (h.turn.block k (Nat.lt_of_lt_of_le hk hB.size) hn).trans (hB.block k hk)⟩, fun k hk => (h.sub k hk).imp id (fun h' => Nat.le_trans hB.size h')⟩
/-- behind the first statement -/
structure Mid1 (w wx : World) (base b : Nat) (f : Fs) (C : Obj) (z : List Int) (f1 : Fs) : Prop where
  ft : Ft w wx base b f f1
  last : f1.last = f.last
  ls : f1.ls = f.ls
  now : f1.now = z
  blk : wx.heap[w.heap.size]? = some C
theorem mid1_of {w w1 : World} {base b : Nat} {f : Fs} {C : Obj} {z : List Int} {v : Value} (h : Fil w base b f) (hB : Buf w1 base v z) (hg : (w.alloc C).drew.grownBy w1 f.nv.ownBlock) (hat : v.ownBlock = f.nv.ownBlock ∨ ∀ g, v.ownBlock = some g → (w.alloc C).drew.heap.size ≤ g) :
    ∃ f1, Mid1 w (w1.setCell ⟨b, 2, none⟩ v) base b f C z f1 := by
  have hw0 : ∀ k, k < w.heap.size → (w.alloc C).drew.heap[k]? = w.heap[k]? := fun k hk => Below.heap_alloc w C k hk
  have h0 := h.below hw0
  have ft := now_turn h0 hB hg hat
  have hb0 : Below w.heap.size w (w.alloc C).drew := ((Below.refl _ _).alloc (Nat.le_refl _) _).drew
  refine ⟨_, ft.after hb0, rfl, rfl, rfl, ?_⟩
  have e : (w.alloc C).drew.heap[w.heap.size]? = some C := Go.heap_alloc_new w C
  refine (ft.turn.block _ (lt_of_block e) (fun hm => ?_)).trans e
  have := (h.lt _ hm).2; omega
/-- behind the second -/
theorem mid2_of {w wx w3 : World} {base b : Nat} {f f1 : Fs} {C O : Obj} {z : List Int} {v : Value} {c : Lc} (h : Mid1 w wx base b f C z f1) (hv : Fv w base c.c c.d c.ro) (hap : ∀ k ∈ c.ro, k ∉ f.mut b) (hR : w3.ownsRow base 94 3 v (f1.ls.length + 1) (rowOf f1.ls ++ c.cells)) (hg : (wx.drew.alloc O).grownBy w3 f1.lo.ownBlock) (hat : v.ownBlock = f1.lo.ownBlock ∨ v.ownBlock = some (wx.drew.alloc O).heap.size) :
    ∃ f', Ft w (w3.setCell ⟨b, 1, none⟩ v) base b f f' ∧ f'.last = f.last ∧ f'.now = z ∧ f'.ls = f.ls ++ [c] := by
  have hR' : w3.ownsRow base 94 3 v (f1.ls ++ [c]).length (rowOf (f1.ls ++ [c])) := by rw [rowOf_app]; simpa using hR
  have hg' : wx.grownBy w3 f1.lo.ownBlock := ⟨hg.os, hg.tape, hg.output, Nat.le_trans (by simp) hg.size, fun k hk hn => (hg.block k (by simp; omega) hn).trans (Below.heap_alloc wx.drew O k hk)⟩
  have lt1 : ∀ k ∈ c.ro, wx.heap[k]? = w.heap[k]? := fun k hk => h.ft.turn.block k (hv.lt k hk).2 (hap k hk)
  have ft := loose_turn h.ft.fil hR' hg' (hat.imp id (fun e g hg => by rw [e] at hg; cases hg; simp)) (fun x hx => by
    rcases List.mem_append.1 hx with hx | hx
    · exact ⟨h.ft.fil.chg x hx, h.ft.fil.ap x hx⟩
    · simp at hx
      subst hx
      refine ⟨hv.keep lt1, fun k hk hm => ?_⟩
      rcases h.ft.sub k hm with h' | h'
      · exact hap k hk h'
      · have := (hv.lt k hk).2; omega)
  exact ⟨_, h.ft.trans ft, h.last, h.now, by rw [← h.ls]⟩
set_option maxHeartbeats 2000000 in
theorem fchange_wr (w : World) (base b : Nat) (f : Fs) (at_ : Nat) (p : List Int) (d : Value) (ro : List Nat) (h : Fil w base b f) (hv : Fv w base (.wr at_ p) d ro) (hap : ∀ k ∈ ro, k ∉ f.mut b) (hok : Fc.ok (.wr at_ p) f.now) (hs : f.now.length + Fc.size (.wr at_ p) ≤ 140737488355328) (hls : f.ls.length ≤ 1000000000) (hbase : base ≤ w.heap.size) :
    Calls Try.prog 46 #[.pointer (some ⟨b, 0, none⟩), .agg #[d, .int .i64 (Fc.size (.wr at_ p) : Nat), .bool (Fc.tears (.wr at_ p))]] w fun e w' => e = .returned (.tuple #[]) ∧ ∃ f', Ft w w' base b f f' ∧ f'.last = f.last ∧ f'.now = Fc.do (.wr at_ p) f.now (Fc.size (.wr at_ p)) ∧ f'.ls = f.ls ++ [⟨d, .wr at_ p, ro⟩] := by
  obtain ⟨i0, i0i, hz0, hz1, hz2⟩ := info_parts Try.info94
  obtain ⟨ao, cap, hnv, hbare, _⟩ := h.now.form
  obtain ⟨PL, hPL⟩ : ∃ PL, Fc.size (.wr at_ p) = PL := ⟨_, rfl⟩
  obtain ⟨Z, hZ⟩ : ∃ Z, Fc.do (.wr at_ p) f.now PL = Z := ⟨_, rfl⟩
  obtain ⟨ab, pb, hd⟩ : ∃ ab pb, d = .func (.func 66) #[] #[.pointer (some ⟨ab, 0, none⟩), .pointer (some ⟨pb, 0, none⟩)] := by
    obtain ⟨ab, pb, _, _, e, _⟩ := hv
    exact ⟨ab, pb, e⟩
  obtain ⟨C, hC0⟩ : ∃ C, C = Obj.cells #[.func (.func 66) #[] #[.pointer (some ⟨ab, 0, none⟩), .pointer (some ⟨pb, 0, none⟩)], .int .i64 PL, .bool true] 94 (0, 0) := ⟨_, rfl⟩
  have hbl := lt_of_block h.blk
  have hb0 : (w.alloc C).heap[b]? = some (.cells #[f.lv, f.lo, f.nv] 75 (0, 0)) := (Below.heap_alloc w C b hbl).trans h.blk
  have c2 : (w.alloc C).drew.cell? ⟨b, 2, none⟩ = some f.nv := (by simp [World.cell?, hb0] : (w.alloc C).cell? ⟨b, 2, none⟩ = some f.nv)
  have hw0 : ∀ k, k < w.heap.size → (w.alloc C).drew.heap[k]? = w.heap[k]? := fun k hk => Below.heap_alloc w C k hk
  have hD := do_any (w.alloc C).drew base (.wr at_ p) d ro ao cap f.now PL (hv.keep fun k hk => hw0 k (hv.lt k hk).2) (by rw [← hnv]; exact h.now.keep fun k hk => hw0 k (h.now.low hk).2) hok (by omega) hs (fun k hk hr => hap k hr (by rw [← hnv] at hk; simp [Fs.mut, hk])) (by simp; omega) ab pb hd
  rw [hZ] at hD
  obtain ⟨L, hL⟩ : ∃ L, f.now.length = L := ⟨_, rfl⟩
  have e0 : (w.alloc C).heap[w.heap.size]? = some (.cells #[.func (.func 66) #[] #[.pointer (some ⟨ab, 0, none⟩), .pointer (some ⟨pb, 0, none⟩)], .int .i64 PL, .bool true] 94 (0, 0)) := (Go.heap_alloc_new w C).trans (by rw [hC0])
  have f0 : (w.alloc C).drew.cell? ⟨w.heap.size, 0, none⟩ = some (.func (.func 66) #[] #[.pointer (some ⟨ab, 0, none⟩), .pointer (some ⟨pb, 0, none⟩)]) := (by rw [cell_block e0]; rfl : (w.alloc C).cell? ⟨w.heap.size, 0, none⟩ = some (.func (.func 66) #[] #[.pointer (some ⟨ab, 0, none⟩), .pointer (some ⟨pb, 0, none⟩)]))
  have f1 : (w.alloc C).drew.cell? ⟨w.heap.size, 1, none⟩ = some (.int .i64 PL) := (by rw [cell_block e0]; rfl : (w.alloc C).cell? ⟨w.heap.size, 1, none⟩ = some (.int .i64 PL))
  -- the first statement
  have HD : Hid (Calls Try.prog 66 #[.slice ao L cap, .int .i64 PL, .pointer (some ⟨ab, 0, none⟩), .pointer (some ⟨pb, 0, none⟩)] (w.alloc C).drew fun e w1 => ∃ a1 n1 k1, e = .returned (.slice a1 n1 k1) ∧ w1.cell? ⟨b, 2, none⟩ = some f.nv ∧ w1.frozen? ⟨b, 2, none⟩ = false ∧ ∃ f1, Mid1 w (w1.setCell ⟨b, 2, none⟩ (.slice a1 n1 k1)) base b f C Z f1) := by
    rw [hL] at hD
    refine Calls.mono hD ?_
    rintro e w1 ⟨v', rfl, hB, hg, hat⟩
    rw [← hL, ← hnv] at hg hat
    obtain ⟨a1, k1, rfl, _⟩ := hB.form
    obtain ⟨f1, hm⟩ := mid1_of h hB hg hat
    have nb := ((nod3 b f.lv.ownBlock f.nv.ownBlock f.lo.ownBlock).1 h.nod).2.1
    have hb1 : w1.heap[b]? = some (.cells #[f.lv, f.lo, f.nv] 75 (0, 0)) := (hg.block b (lt_of_block hb0) (fun e => nb e.symm)).trans hb0
    exact ⟨a1, _, k1, rfl, by simp [World.cell?, hb1], by simp [World.frozen?, hb1], f1, hm⟩
  -- the second
  have HE : Hid (∀ wx f1, Mid1 w wx base b f C Z f1 → wx.drew.cell? ⟨b, 1, none⟩ = some f1.lo ∧ wx.drew.frozen? ⟨b, 1, none⟩ = false ∧ wx.drew.cell? ⟨w.heap.size, 0, none⟩ = some (.func (.func 66) #[] #[.pointer (some ⟨ab, 0, none⟩), .pointer (some ⟨pb, 0, none⟩)]) ∧ wx.drew.cell? ⟨w.heap.size, 1, none⟩ = some (.int .i64 PL) ∧ wx.drew.cell? ⟨w.heap.size, 2, none⟩ = some (.bool true) ∧ (∃ a1 n1 k1, f1.lo = .slice a1 n1 k1) ∧ ∀ O, (wx.drew.alloc O).ownsRow base 94 3 f1.lo f1.ls.length (rowOf f1.ls) ∧ base ≤ (wx.drew.alloc O).heap.size) := by
    intro wx f1 hm
    have q1 := hm.ft.fil.blk
    have q2 := hm.blk
    rw [hC0] at q2
    refine ⟨(by simp [World.cell?, q1] : wx.cell? ⟨b, 1, none⟩ = some f1.lo), (by simp [World.frozen?, q1] : wx.frozen? ⟨b, 1, none⟩ = false), (by simp [World.cell?, q2] : wx.cell? ⟨w.heap.size, 0, none⟩ = _), (by simp [World.cell?, q2] : wx.cell? ⟨w.heap.size, 1, none⟩ = _), (by simp [World.cell?, q2] : wx.cell? ⟨w.heap.size, 2, none⟩ = _), ?_, fun O => ⟨?_, ?_⟩⟩
    · obtain ⟨a1, k1, e⟩ := own_slice hm.ft.fil.row
      exact ⟨a1, _, k1, e⟩
    · exact own_keep hm.ft.fil.row fun k hk => Below.heap_alloc wx.drew O k (hm.ft.fil.row.lt k hk).2
    · have := hm.ft.turn.size; simp; omega
  have HG : Hid (∀ wx w3 f1 O v, Mid1 w wx base b f C Z f1 → w3.ownsRow base 94 3 v (f1.ls.length + 1) (rowOf f1.ls ++ [.func (.func 66) #[] #[.pointer (some ⟨ab, 0, none⟩), .pointer (some ⟨pb, 0, none⟩)], .int .i64 PL, .bool true]) → (wx.drew.alloc O).grownBy w3 f1.lo.ownBlock → (v.ownBlock = f1.lo.ownBlock ∨ v.ownBlock = some (wx.drew.alloc O).heap.size) → (∃ a1 n1 k1, v = .slice a1 n1 k1) ∧ w3.cell? ⟨b, 1, none⟩ = some f1.lo ∧ w3.frozen? ⟨b, 1, none⟩ = false ∧ ∃ f', Ft w (w3.setCell ⟨b, 1, none⟩ v) base b f f' ∧ f'.last = f.last ∧ f'.now = Z ∧ f'.ls = f.ls ++ [⟨.func (.func 66) #[] #[.pointer (some ⟨ab, 0, none⟩), .pointer (some ⟨pb, 0, none⟩)], .wr at_ p, ro⟩]) := by
    intro wx w3 f1 O v hm hR hg hat
    have hR' : w3.ownsRow base 94 3 v (f1.ls.length + 1) (rowOf f1.ls ++ Lc.cells ⟨d, .wr at_ p, ro⟩) := by
      rw [← hd, ← hPL] at hR; exact hR
    obtain ⟨a1, k1, e⟩ := own_slice hR
    have q1 := hm.ft.fil.blk
    have nb := ((nod3 b f1.lv.ownBlock f1.nv.ownBlock f1.lo.ownBlock).1 hm.ft.fil.nod).2.2.1
    have q3 : w3.heap[b]? = some (.cells #[f1.lv, f1.lo, f1.nv] 75 (0, 0)) := (hg.block b (by have := lt_of_block q1; simp; omega) (fun e => nb e.symm)).trans ((Below.heap_alloc wx.drew O b (lt_of_block q1)).trans q1)
    exact ⟨⟨a1, _, k1, e⟩, by simp [World.cell?, q3], by simp [World.frozen?, q3], by have := mid2_of hm hv hap hR' hg hat; rw [hd] at this; exact this⟩
  have HLs : Hid (∀ wx f1, Mid1 w wx base b f C Z f1 → f1.ls.length ≤ 1000000000) := fun wx f1 hm => by rw [hm.ls]; exact hls
  rw [hnv, hL] at c2
  have hnv' : Hid (f.nv = .slice ao L cap) := (by rw [← hL]; exact hnv : f.nv = .slice ao L cap)
  have HZ : Hid (Z = Fc.do (.wr at_ p) f.now PL) := hZ.symm
  rw [hPL]
  show Calls Try.prog 46 #[.pointer (some ⟨b, 0, none⟩), .agg #[d, .int .i64 PL, .bool true]] w fun e w' => e = .returned (.tuple #[]) ∧ ∃ f', Ft w w' base b f f' ∧ f'.last = f.last ∧ f'.now = Fc.do (.wr at_ p) f.now PL ∧ f'.ls = f.ls ++ [⟨d, .wr at_ p, ro⟩]
  rw [hd]
  clear hD h hv hap hok hs hb0 hw0 e0 hnv hL hZ hPL hbl hd hls
  subst hC0
  go_enter Try.func46, Try.ntmps46
  go_upto_region 1 with fail
  go_cut [] (fun wx => ∃ f1, Hid (Mid1 w wx base b f (Obj.cells #[.func (.func 66) #[] #[.pointer (some ⟨ab, 0, none⟩), .pointer (some ⟨pb, 0, none⟩)], .int .i64 PL, .bool true] 94 (0, 0)) Z f1))
  case first =>
    go_region_with (first | (go_at_call 66; refine HD.out.mono ?_; rintro e w1 ⟨a1, n1, k1, rfl, x0, x1, hm⟩; rw [hnv'.out] at x0; have HM : Hid (∃ f1, Mid1 w (w1.setCell ⟨b, 2, none⟩ (.slice a1 n1 k1)) base b f (Obj.cells #[.func (.func 66) #[] #[.pointer (some ⟨ab, 0, none⟩), .pointer (some ⟨pb, 0, none⟩)], .int .i64 PL, .bool true] 94 (0, 0)) Z f1) := hm; clear hm))
    all_goals
      go_wp2_with fail
      go_meet
      case rel => obtain ⟨f1, hm⟩ := HM.out; exact ⟨f1, hm⟩
  case rest =>
    obtain ⟨f1', HM⟩ := hcut
    obtain ⟨y1, y2, y3, y4, y5, ⟨a1, n1, k1, hlo⟩, hO⟩ := HE.out _ _ HM.out
    have HO : Hid (∀ O, (wc.drew.alloc O).ownsRow base 94 3 f1'.lo f1'.ls.length (rowOf f1'.ls) ∧ base ≤ (wc.drew.alloc O).heap.size) := hO
    have HLo : Hid (f1'.lo = .slice a1 n1 k1) := hlo
    rw [hlo] at y1
    have hLL := HLs.out _ _ HM.out
    have HLL : Hid (f1'.ls.length + 1 ≤ maxLen ∧ (f1'.ls.length + 1) * 24 ≤ 140737488355328) := ⟨by unfold maxLen; omega, by omega⟩
    have HOw : Hid ((wc.drew.alloc (Obj.cells #[.func (.func 66) #[] #[.pointer (some ⟨ab, 0, none⟩), .pointer (some ⟨pb, 0, none⟩)], .int .i64 PL, .bool true] 94 (0, 0))).ownsRow base 94 3 (.slice a1 n1 k1) f1'.ls.length (rowOf f1'.ls)) := (by rw [← hlo]; exact (hO _).1 : (wc.drew.alloc (Obj.cells #[.func (.func 66) #[] #[.pointer (some ⟨ab, 0, none⟩), .pointer (some ⟨pb, 0, none⟩)], .int .i64 PL, .bool true] 94 (0, 0))).ownsRow base 94 3 (.slice a1 n1 k1) f1'.ls.length (rowOf f1'.ls))
    have HOb : Hid (base ≤ (wc.drew.alloc (Obj.cells #[.func (.func 66) #[] #[.pointer (some ⟨ab, 0, none⟩), .pointer (some ⟨pb, 0, none⟩)], .int .i64 PL, .bool true] 94 (0, 0))).heap.size) := (hO _).2
    have y1' : (wc.drew.alloc (Obj.cells #[.func (.func 66) #[] #[.pointer (some ⟨ab, 0, none⟩), .pointer (some ⟨pb, 0, none⟩)], .int .i64 PL, .bool true] 94 (0, 0))).cell? ⟨b, 1, none⟩ = some (.slice a1 n1 k1) := cell_of_below ((Below.refl _ _).alloc (Nat.le_refl _) _) y1
    have y1'' : (wc.alloc (Obj.cells #[.func (.func 66) #[] #[.pointer (some ⟨ab, 0, none⟩), .pointer (some ⟨pb, 0, none⟩)], .int .i64 PL, .bool true] 94 (0, 0))).drew.cell? ⟨b, 1, none⟩ = some (.slice a1 n1 k1) := y1'
    have HNw : Hid (∀ j u, ([.func (.func 66) #[] #[.pointer (some ⟨ab, 0, none⟩), .pointer (some ⟨pb, 0, none⟩)], .int .i64 PL, .bool true] : List Value)[j]? = some u → (wc.drew.alloc (Obj.cells #[.func (.func 66) #[] #[.pointer (some ⟨ab, 0, none⟩), .pointer (some ⟨pb, 0, none⟩)], .int .i64 PL, .bool true] 94 (0, 0))).cell? ((⟨wc.heap.size, 0, none⟩ : Addr).add j) = some u) := by
      intro j u hj
      have e : (wc.drew.alloc (Obj.cells #[.func (.func 66) #[] #[.pointer (some ⟨ab, 0, none⟩), .pointer (some ⟨pb, 0, none⟩)], .int .i64 PL, .bool true] 94 (0, 0))).heap[wc.heap.size]? = some (Obj.cells #[.func (.func 66) #[] #[.pointer (some ⟨ab, 0, none⟩), .pointer (some ⟨pb, 0, none⟩)], .int .i64 PL, .bool true] 94 (0, 0)) := Go.heap_alloc_new wc.drew _
      rw [Go.WideShapes.add_plain, cell_block e]
      simpa using hj
    have HOn : Hid (∀ u ∈ ([.func (.func 66) #[] #[.pointer (some ⟨ab, 0, none⟩), .pointer (some ⟨pb, 0, none⟩)], .int .i64 PL, .bool true] : List Value), u.oneCell' = true) := by
      intro u hu
      simp at hu
      rcases hu with rfl | rfl | rfl <;> rfl
    clear hO hlo hLL
    go_wp2_with fail
    go_region_law (refine step_append_at rfl (.tmp 20) (.tmp 22) 73 rfl base 94 i0 (.agg #[.nilFunc, .int .i64 0, .bool false]) 3 24 Try.underlying73 i0i hz0 hz1 hz2 rfl (by decide) (.slice a1 n1 k1) f1'.ls.length (rowOf f1'.ls) rfl HOw.out ⟨wc.heap.size, 0, none⟩ 1 1 [.func (.func 66) #[] #[.pointer (some ⟨ab, 0, none⟩), .pointer (some ⟨pb, 0, none⟩)], .int .i64 PL, .bool true] rfl rfl HNw.out HOn.out HLL.out.1 HLL.out.2 HOb.out ?_; intro v3 w3 hR hg hat; rw [← HLo.out] at hg hat; obtain ⟨⟨a3, n3, k3, hv3⟩, s1, s2, hf⟩ := HG.out wc w3 f1' _ v3 HM.out hR hg hat; subst hv3; rw [HLo.out] at s1; have HF : Hid (∃ f', Ft w (w3.setCell ⟨b, 1, none⟩ (.slice a3 n3 k3)) base b f f' ∧ f'.last = f.last ∧ f'.now = Z ∧ f'.ls = f.ls ++ [⟨.func (.func 66) #[] #[.pointer (some ⟨ab, 0, none⟩), .pointer (some ⟨pb, 0, none⟩)], .wr at_ p, ro⟩]) := hf; clear hR hg hat hf)
    all_goals
      go_wp2_with fail
      go_end0
      refine ⟨rfl, ?_⟩
      rw [← HZ.out]
      exact HF.out
set_option maxHeartbeats 2000000 in
theorem fchange_ct (w : World) (base b : Nat) (f : Fs) (kk : Nat) (d : Value) (ro : List Nat) (h : Fil w base b f) (hv : Fv w base (.ct kk) d ro) (hap : ∀ k ∈ ro, k ∉ f.mut b) (hok : Fc.ok (.ct kk) f.now) (hs : f.now.length + Fc.size (.ct kk) ≤ 140737488355328) (hls : f.ls.length ≤ 1000000000) (hbase : base ≤ w.heap.size) :
    Calls Try.prog 46 #[.pointer (some ⟨b, 0, none⟩), .agg #[d, .int .i64 (Fc.size (.ct kk) : Nat), .bool (Fc.tears (.ct kk))]] w fun e w' => e = .returned (.tuple #[]) ∧ ∃ f', Ft w w' base b f f' ∧ f'.last = f.last ∧ f'.now = Fc.do (.ct kk) f.now (Fc.size (.ct kk)) ∧ f'.ls = f.ls ++ [⟨d, .ct kk, ro⟩] := by
  obtain ⟨i0, i0i, hz0, hz1, hz2⟩ := info_parts Try.info94
  obtain ⟨ao, cap, hnv, hbare, _⟩ := h.now.form
  obtain ⟨PL, hPL⟩ : ∃ PL, Fc.size (.ct kk) = PL := ⟨_, rfl⟩
  obtain ⟨Z, hZ⟩ : ∃ Z, Fc.do (.ct kk) f.now PL = Z := ⟨_, rfl⟩
  obtain ⟨ab, hd⟩ : ∃ ab, d = .func (.func 67) #[] #[.pointer (some ⟨ab, 0, none⟩)] := by
    obtain ⟨ab, e, _⟩ := hv
    exact ⟨ab, e⟩
  obtain ⟨C, hC0⟩ : ∃ C, C = Obj.cells #[.func (.func 67) #[] #[.pointer (some ⟨ab, 0, none⟩)], .int .i64 PL, .bool false] 94 (0, 0) := ⟨_, rfl⟩
  have hbl := lt_of_block h.blk
  have hb0 : (w.alloc C).heap[b]? = some (.cells #[f.lv, f.lo, f.nv] 75 (0, 0)) := (Below.heap_alloc w C b hbl).trans h.blk
  have c2 : (w.alloc C).drew.cell? ⟨b, 2, none⟩ = some f.nv := (by simp [World.cell?, hb0] : (w.alloc C).cell? ⟨b, 2, none⟩ = some f.nv)
  have hw0 : ∀ k, k < w.heap.size → (w.alloc C).drew.heap[k]? = w.heap[k]? := fun k hk => Below.heap_alloc w C k hk
  have hD := do_any (w.alloc C).drew base (.ct kk) d ro ao cap f.now PL (hv.keep fun k hk => hw0 k (hv.lt k hk).2) (by rw [← hnv]; exact h.now.keep fun k hk => hw0 k (h.now.low hk).2) hok (by omega) hs (fun k hk hr => hap k hr (by rw [← hnv] at hk; simp [Fs.mut, hk])) (by simp; omega) ab hd
  rw [hZ] at hD
  obtain ⟨L, hL⟩ : ∃ L, f.now.length = L := ⟨_, rfl⟩
  have e0 : (w.alloc C).heap[w.heap.size]? = some (.cells #[.func (.func 67) #[] #[.pointer (some ⟨ab, 0, none⟩)], .int .i64 PL, .bool false] 94 (0, 0)) := (Go.heap_alloc_new w C).trans (by rw [hC0])
  have f0 : (w.alloc C).drew.cell? ⟨w.heap.size, 0, none⟩ = some (.func (.func 67) #[] #[.pointer (some ⟨ab, 0, none⟩)]) := (by rw [cell_block e0]; rfl : (w.alloc C).cell? ⟨w.heap.size, 0, none⟩ = some (.func (.func 67) #[] #[.pointer (some ⟨ab, 0, none⟩)]))
  have f1 : (w.alloc C).drew.cell? ⟨w.heap.size, 1, none⟩ = some (.int .i64 PL) := (by rw [cell_block e0]; rfl : (w.alloc C).cell? ⟨w.heap.size, 1, none⟩ = some (.int .i64 PL))
  -- the first statement
  have HD : Hid (Calls Try.prog 67 #[.slice ao L cap, .int .i64 PL, .pointer (some ⟨ab, 0, none⟩)] (w.alloc C).drew fun e w1 => ∃ a1 n1 k1, e = .returned (.slice a1 n1 k1) ∧ w1.cell? ⟨b, 2, none⟩ = some f.nv ∧ w1.frozen? ⟨b, 2, none⟩ = false ∧ ∃ f1, Mid1 w (w1.setCell ⟨b, 2, none⟩ (.slice a1 n1 k1)) base b f C Z f1) := by
    rw [hL] at hD
    refine Calls.mono hD ?_
    rintro e w1 ⟨v', rfl, hB, hg, hat⟩
    rw [← hL, ← hnv] at hg hat
    obtain ⟨a1, k1, rfl, _⟩ := hB.form
    obtain ⟨f1, hm⟩ := mid1_of h hB hg hat
    have nb := ((nod3 b f.lv.ownBlock f.nv.ownBlock f.lo.ownBlock).1 h.nod).2.1
    have hb1 : w1.heap[b]? = some (.cells #[f.lv, f.lo, f.nv] 75 (0, 0)) := (hg.block b (lt_of_block hb0) (fun e => nb e.symm)).trans hb0
    exact ⟨a1, _, k1, rfl, by simp [World.cell?, hb1], by simp [World.frozen?, hb1], f1, hm⟩
  -- the second
  have HE : Hid (∀ wx f1, Mid1 w wx base b f C Z f1 → wx.drew.cell? ⟨b, 1, none⟩ = some f1.lo ∧ wx.drew.frozen? ⟨b, 1, none⟩ = false ∧ wx.drew.cell? ⟨w.heap.size, 0, none⟩ = some (.func (.func 67) #[] #[.pointer (some ⟨ab, 0, none⟩)]) ∧ wx.drew.cell? ⟨w.heap.size, 1, none⟩ = some (.int .i64 PL) ∧ wx.drew.cell? ⟨w.heap.size, 2, none⟩ = some (.bool false) ∧ (∃ a1 n1 k1, f1.lo = .slice a1 n1 k1) ∧ ∀ O, (wx.drew.alloc O).ownsRow base 94 3 f1.lo f1.ls.length (rowOf f1.ls) ∧ base ≤ (wx.drew.alloc O).heap.size) := by
    intro wx f1 hm
    have q1 := hm.ft.fil.blk
    have q2 := hm.blk
    rw [hC0] at q2
    refine ⟨(by simp [World.cell?, q1] : wx.cell? ⟨b, 1, none⟩ = some f1.lo), (by simp [World.frozen?, q1] : wx.frozen? ⟨b, 1, none⟩ = false), (by simp [World.cell?, q2] : wx.cell? ⟨w.heap.size, 0, none⟩ = _), (by simp [World.cell?, q2] : wx.cell? ⟨w.heap.size, 1, none⟩ = _), (by simp [World.cell?, q2] : wx.cell? ⟨w.heap.size, 2, none⟩ = _), ?_, fun O => ⟨?_, ?_⟩⟩
    · obtain ⟨a1, k1, e⟩ := own_slice hm.ft.fil.row
      exact ⟨a1, _, k1, e⟩
    · exact own_keep hm.ft.fil.row fun k hk => Below.heap_alloc wx.drew O k (hm.ft.fil.row.lt k hk).2
    · have := hm.ft.turn.size; simp; omega
  have HG : Hid (∀ wx w3 f1 O v, Mid1 w wx base b f C Z f1 → w3.ownsRow base 94 3 v (f1.ls.length + 1) (rowOf f1.ls ++ [.func (.func 67) #[] #[.pointer (some ⟨ab, 0, none⟩)], .int .i64 PL, .bool false]) → (wx.drew.alloc O).grownBy w3 f1.lo.ownBlock → (v.ownBlock = f1.lo.ownBlock ∨ v.ownBlock = some (wx.drew.alloc O).heap.size) → (∃ a1 n1 k1, v = .slice a1 n1 k1) ∧ w3.cell? ⟨b, 1, none⟩ = some f1.lo ∧ w3.frozen? ⟨b, 1, none⟩ = false ∧ ∃ f', Ft w (w3.setCell ⟨b, 1, none⟩ v) base b f f' ∧ f'.last = f.last ∧ f'.now = Z ∧ f'.ls = f.ls ++ [⟨.func (.func 67) #[] #[.pointer (some ⟨ab, 0, none⟩)], .ct kk, ro⟩]) := by
    intro wx w3 f1 O v hm hR hg hat
    have hR' : w3.ownsRow base 94 3 v (f1.ls.length + 1) (rowOf f1.ls ++ Lc.cells ⟨d, .ct kk, ro⟩) := by
      rw [← hd, ← hPL] at hR; exact hR
    obtain ⟨a1, k1, e⟩ := own_slice hR
    have q1 := hm.ft.fil.blk
    have nb := ((nod3 b f1.lv.ownBlock f1.nv.ownBlock f1.lo.ownBlock).1 hm.ft.fil.nod).2.2.1
    have q3 : w3.heap[b]? = some (.cells #[f1.lv, f1.lo, f1.nv] 75 (0, 0)) := (hg.block b (by have := lt_of_block q1; simp; omega) (fun e => nb e.symm)).trans ((Below.heap_alloc wx.drew O b (lt_of_block q1)).trans q1)
    exact ⟨⟨a1, _, k1, e⟩, by simp [World.cell?, q3], by simp [World.frozen?, q3], by have := mid2_of hm hv hap hR' hg hat; rw [hd] at this; exact this⟩
  have HLs : Hid (∀ wx f1, Mid1 w wx base b f C Z f1 → f1.ls.length ≤ 1000000000) := fun wx f1 hm => by rw [hm.ls]; exact hls
  rw [hnv, hL] at c2
  have hnv' : Hid (f.nv = .slice ao L cap) := (by rw [← hL]; exact hnv : f.nv = .slice ao L cap)
  have HZ : Hid (Z = Fc.do (.ct kk) f.now PL) := hZ.symm
  rw [hPL]
  show Calls Try.prog 46 #[.pointer (some ⟨b, 0, none⟩), .agg #[d, .int .i64 PL, .bool false]] w fun e w' => e = .returned (.tuple #[]) ∧ ∃ f', Ft w w' base b f f' ∧ f'.last = f.last ∧ f'.now = Fc.do (.ct kk) f.now PL ∧ f'.ls = f.ls ++ [⟨d, .ct kk, ro⟩]
  rw [hd]
  clear hD h hv hap hok hs hb0 hw0 e0 hnv hL hZ hPL hbl hd hls
  subst hC0
  go_enter Try.func46, Try.ntmps46
  go_upto_region 1 with fail
  go_cut [] (fun wx => ∃ f1, Hid (Mid1 w wx base b f (Obj.cells #[.func (.func 67) #[] #[.pointer (some ⟨ab, 0, none⟩)], .int .i64 PL, .bool false] 94 (0, 0)) Z f1))
  case first =>
    go_region_with (first | (go_at_call 67; refine HD.out.mono ?_; rintro e w1 ⟨a1, n1, k1, rfl, x0, x1, hm⟩; rw [hnv'.out] at x0; have HM : Hid (∃ f1, Mid1 w (w1.setCell ⟨b, 2, none⟩ (.slice a1 n1 k1)) base b f (Obj.cells #[.func (.func 67) #[] #[.pointer (some ⟨ab, 0, none⟩)], .int .i64 PL, .bool false] 94 (0, 0)) Z f1) := hm; clear hm))
    all_goals
      go_wp2_with fail
      go_meet
      case rel => obtain ⟨f1, hm⟩ := HM.out; exact ⟨f1, hm⟩
  case rest =>
    obtain ⟨f1', HM⟩ := hcut
    obtain ⟨y1, y2, y3, y4, y5, ⟨a1, n1, k1, hlo⟩, hO⟩ := HE.out _ _ HM.out
    have HO : Hid (∀ O, (wc.drew.alloc O).ownsRow base 94 3 f1'.lo f1'.ls.length (rowOf f1'.ls) ∧ base ≤ (wc.drew.alloc O).heap.size) := hO
    have HLo : Hid (f1'.lo = .slice a1 n1 k1) := hlo
    rw [hlo] at y1
    have hLL := HLs.out _ _ HM.out
    have HLL : Hid (f1'.ls.length + 1 ≤ maxLen ∧ (f1'.ls.length + 1) * 24 ≤ 140737488355328) := ⟨by unfold maxLen; omega, by omega⟩
    have HOw : Hid ((wc.drew.alloc (Obj.cells #[.func (.func 67) #[] #[.pointer (some ⟨ab, 0, none⟩)], .int .i64 PL, .bool false] 94 (0, 0))).ownsRow base 94 3 (.slice a1 n1 k1) f1'.ls.length (rowOf f1'.ls)) := (by rw [← hlo]; exact (hO _).1 : (wc.drew.alloc (Obj.cells #[.func (.func 67) #[] #[.pointer (some ⟨ab, 0, none⟩)], .int .i64 PL, .bool false] 94 (0, 0))).ownsRow base 94 3 (.slice a1 n1 k1) f1'.ls.length (rowOf f1'.ls))
    have HOb : Hid (base ≤ (wc.drew.alloc (Obj.cells #[.func (.func 67) #[] #[.pointer (some ⟨ab, 0, none⟩)], .int .i64 PL, .bool false] 94 (0, 0))).heap.size) := (hO _).2
    have y1' : (wc.drew.alloc (Obj.cells #[.func (.func 67) #[] #[.pointer (some ⟨ab, 0, none⟩)], .int .i64 PL, .bool false] 94 (0, 0))).cell? ⟨b, 1, none⟩ = some (.slice a1 n1 k1) := cell_of_below ((Below.refl _ _).alloc (Nat.le_refl _) _) y1
    have y1'' : (wc.alloc (Obj.cells #[.func (.func 67) #[] #[.pointer (some ⟨ab, 0, none⟩)], .int .i64 PL, .bool false] 94 (0, 0))).drew.cell? ⟨b, 1, none⟩ = some (.slice a1 n1 k1) := y1'
    have HNw : Hid (∀ j u, ([.func (.func 67) #[] #[.pointer (some ⟨ab, 0, none⟩)], .int .i64 PL, .bool false] : List Value)[j]? = some u → (wc.drew.alloc (Obj.cells #[.func (.func 67) #[] #[.pointer (some ⟨ab, 0, none⟩)], .int .i64 PL, .bool false] 94 (0, 0))).cell? ((⟨wc.heap.size, 0, none⟩ : Addr).add j) = some u) := by
      intro j u hj
      have e : (wc.drew.alloc (Obj.cells #[.func (.func 67) #[] #[.pointer (some ⟨ab, 0, none⟩)], .int .i64 PL, .bool false] 94 (0, 0))).heap[wc.heap.size]? = some (Obj.cells #[.func (.func 67) #[] #[.pointer (some ⟨ab, 0, none⟩)], .int .i64 PL, .bool false] 94 (0, 0)) := Go.heap_alloc_new wc.drew _
      rw [Go.WideShapes.add_plain, cell_block e]
      simpa using hj
    have HOn : Hid (∀ u ∈ ([.func (.func 67) #[] #[.pointer (some ⟨ab, 0, none⟩)], .int .i64 PL, .bool false] : List Value), u.oneCell' = true) := by
      intro u hu
      simp at hu
      rcases hu with rfl | rfl | rfl <;> rfl
    clear hO hlo hLL
    go_wp2_with fail
    go_region_law (refine step_append_at rfl (.tmp 20) (.tmp 22) 73 rfl base 94 i0 (.agg #[.nilFunc, .int .i64 0, .bool false]) 3 24 Try.underlying73 i0i hz0 hz1 hz2 rfl (by decide) (.slice a1 n1 k1) f1'.ls.length (rowOf f1'.ls) rfl HOw.out ⟨wc.heap.size, 0, none⟩ 1 1 [.func (.func 67) #[] #[.pointer (some ⟨ab, 0, none⟩)], .int .i64 PL, .bool false] rfl rfl HNw.out HOn.out HLL.out.1 HLL.out.2 HOb.out ?_; intro v3 w3 hR hg hat; rw [← HLo.out] at hg hat; obtain ⟨⟨a3, n3, k3, hv3⟩, s1, s2, hf⟩ := HG.out wc w3 f1' _ v3 HM.out hR hg hat; subst hv3; rw [HLo.out] at s1; have HF : Hid (∃ f', Ft w (w3.setCell ⟨b, 1, none⟩ (.slice a3 n3 k3)) base b f f' ∧ f'.last = f.last ∧ f'.now = Z ∧ f'.ls = f.ls ++ [⟨.func (.func 67) #[] #[.pointer (some ⟨ab, 0, none⟩)], .ct kk, ro⟩]) := hf; clear hR hg hat hf)
    all_goals
      go_wp2_with fail
      go_end0
      refine ⟨rfl, ?_⟩
      rw [← HZ.out]
      exact HF.out
end Go.Proofs.Ytkmohpdcchpndaa
