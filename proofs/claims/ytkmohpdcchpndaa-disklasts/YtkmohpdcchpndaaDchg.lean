/-
  A change of the directory.
-/
import Derived.Test.YtkmohpdcchpndaaDfil
namespace Go.Proofs.Ytkmohpdcchpndaa
open Go.RowKit
set_option linter.unusedVariables false
set_option linter.unusedSimpArgs false
set_option maxRecDepth 100000
def DPost (w : World) (base : Nat) (c : Dc) (mo : Option Nat) (od : Option (DataW Unit)) (n : Nat) (e : Ending) (w' : World) : Prop := ∃ mo', e = .returned (.map mo') ∧ Dm w' base (.map mo') (c.do od) (n + 1) ∧ w.grownBy w' (mblk (.map mo)) ∧ (mblk (.map mo') = mblk (.map mo) ∨ ∀ g, mblk (.map mo') = some g → w.heap.size ≤ g)
/-- a change's function, called -/
def DDo (w : World) (base : Nat) (c : Dc) (d : Value) (mo : Option Nat) (od : Option (DataW Unit)) (n : Nat) : Prop :=
  match c with
  | .nm _ _ => ∀ nb sb, d = .func (.func 65) #[] #[.pointer (some ⟨nb, 0, none⟩), .pointer (some ⟨sb, 0, none⟩)] → Calls Try.prog 65 #[.map mo, .int .i64 0, .pointer (some ⟨nb, 0, none⟩), .pointer (some ⟨sb, 0, none⟩)] w (DPost w base c mo od n)
  | .rn _ _ _ => ∀ fb nb tb, d = .func (.func 68) #[] #[.pointer (some ⟨fb, 0, none⟩), .pointer (some ⟨nb, 0, none⟩), .pointer (some ⟨tb, 0, none⟩)] → Calls Try.prog 68 #[.map mo, .int .i64 0, .pointer (some ⟨fb, 0, none⟩), .pointer (some ⟨nb, 0, none⟩), .pointer (some ⟨tb, 0, none⟩)] w (DPost w base c mo od n)
  | .rm _ => ∀ sb, d = .func (.func 75) #[] #[.pointer (some ⟨sb, 0, none⟩)] → Calls Try.prog 75 #[.map mo, .int .i64 0, .pointer (some ⟨sb, 0, none⟩)] w (DPost w base c mo od n)
theorem ddo_any (w : World) (base : Nat) (c : Dc) (d : Value) (ro : List Nat) (mo : Option Nat) (od : Option (DataW Unit)) (n : Nat) (hF : Dv w base c d ro) (hB : Dm w base (.map mo) od n) (hok : c.ok od) (hn : n < 1000000000) (hbase : base ≤ w.heap.size) : DDo w base c d mo od n := by
  cases c with
  | nm name num =>
    obtain ⟨nb, sb, rfl, h1, h2, h3, h4, rfl, h5, h6⟩ := hF
    intro nb' sb' e
    cases e
    refine (naming_do w base (.map mo) od n 0 name num nb sb hB hn (by simp [World.cell?, h1]) (by simp [World.cell?, h2]) h5 h6 hbase).mono ?_
    rintro e w' ⟨mv', rfl, hD, hg, hat⟩
    obtain ⟨mo', rfl⟩ := hD.shape
    exact ⟨mo', rfl, hD, hg, hat.imp id (fun e g hg => by rw [e] at hg; cases hg; exact Nat.le_refl _)⟩
  | rn fr to_ num =>
    obtain ⟨fb, nb, tb, rfl, h1, h2, h3, h4, h5, h6, rfl, h7, h8, h9⟩ := hF
    intro fb' nb' tb' e
    cases e
    rcases hB with ⟨_, rfl⟩ | ⟨m, D, e, rfl, g1, g2, g3⟩
    · exact absurd rfl hok
    · cases e
      refine (renaming_do w base m D n 0 fr to_ num fb nb tb g1 g2 g3 hn h1 h2 h3 h7 h8 h9).mono ?_
      rintro e w' ⟨rfl, hD, hg⟩
      exact ⟨some m, rfl, hD, hg, .inl rfl⟩
  | rm name =>
    obtain ⟨sb, rfl, h1, h2, rfl, h3⟩ := hF
    intro sb' e
    cases e
    rcases hB with ⟨_, rfl⟩ | ⟨m, D, e, rfl, g1, g2, g3⟩
    · exact absurd rfl hok
    · cases e
      refine (removing_do w base m D n 0 name sb g1 g2 g3 (by simp [World.cell?, h1]) h3).mono ?_
      rintro e w' ⟨rfl, hD, hg⟩
      exact ⟨some m, rfl, hD, hg, .inl rfl⟩
theorem Dir.below {w w' : World} {base b : Nat} {f : Dr} (h : Dir w base b f) (hk : ∀ k, k < w.heap.size → w'.heap[k]? = w.heap[k]?) : Dir w' base b f := h.keep (fun k e => hk k (h.lt k e).2) (fun c hc k e => hk k ((h.chg c hc).lt k e).2)
theorem Dt.after {w w0 w' : World} {base b : Nat} {f f' : Dr} (hB : Below w.heap.size w w0) (h : Dt w0 w' base b f f') : Dt w w' base b f f' :=
  ⟨h.fil, ⟨h.turn.os.trans hB.os, h.turn.tape.trans hB.tape, h.turn.output.trans hB.output, Nat.le_trans hB.size h.turn.size, fun k hk hn => (h.turn.block k (Nat.lt_of_lt_of_le hk hB.size) hn).trans (hB.block k hk)⟩, fun k hk => (h.sub k hk).imp id (fun h' => Nat.le_trans hB.size h')⟩
/-- behind the first statement -/
structure Mdd (w wx : World) (base b : Nat) (f : Dr) (C : Obj) (z : Option (DataW Unit)) (f1 : Dr) : Prop where
  ft : Dt w wx base b f f1
  last : f1.last = f.last
  ls : f1.ls = f.ls
  now : f1.now = z
  last' : f1.lv = f.lv ∧ f1.bl = f.bl
  oth : f1.c0 = f.c0 ∧ f1.c1 = f.c1 ∧ f1.c2 = f.c2 ∧ f1.c6 = f.c6 ∧ f1.c7 = f.c7
  bn : f1.bn = f.bn + 1
  blk : wx.heap[w.heap.size]? = some C
theorem mdd_of {w w1 : World} {base b : Nat} {f : Dr} {C : Obj} {z : Option (DataW Unit)} {v : Value} (h : Dir w base b f) (hB : Dm w1 base v z (f.bn + 1)) (hg : (w.alloc C).drew.grownBy w1 (mblk f.nv)) (hat : mblk v = (mblk f.nv) ∨ ∀ g, mblk v = some g → (w.alloc C).drew.heap.size ≤ g) :
    ∃ f1, Mdd w (w1.setCell ⟨b, 5, none⟩ v) base b f C z f1 := by
  have hw0 : ∀ k, k < w.heap.size → (w.alloc C).drew.heap[k]? = w.heap[k]? := fun k hk => Below.heap_alloc w C k hk
  have h0 := h.below hw0
  have ft := dnow_turn h0 hB hg hat
  have hb0 : Below w.heap.size w (w.alloc C).drew := ((Below.refl _ _).alloc (Nat.le_refl _) _).drew
  refine ⟨_, ft.after hb0, rfl, rfl, rfl, ⟨rfl, rfl⟩, ⟨rfl, rfl, rfl, rfl, rfl⟩, rfl, ?_⟩
  have e : (w.alloc C).drew.heap[w.heap.size]? = some C := Go.heap_alloc_new w C
  refine (ft.turn.block _ (lt_of_block e) (fun hm => ?_)).trans e
  have := (h.lt _ hm).2; omega
/-- behind the second -/
theorem mde_of {w wx w3 : World} {base b : Nat} {f f1 : Dr} {C O : Obj} {z : Option (DataW Unit)} {v : Value} {c : Ld} (h : Mdd w wx base b f C z f1) (hv : Dv w base c.c c.d c.ro) (hap : ∀ k ∈ c.ro, k ∉ f.mut b) (hR : w3.ownsRow base 88 3 v (f1.ls.length + 1) (rowOfD f1.ls ++ c.cells)) (hg : (wx.drew.alloc O).grownBy w3 f1.lo.ownBlock) (hat : v.ownBlock = f1.lo.ownBlock ∨ v.ownBlock = some (wx.drew.alloc O).heap.size) :
    ∃ f', Dt w (w3.setCell ⟨b, 4, none⟩ v) base b f f' ∧ f'.last = f.last ∧ f'.bl = f.bl ∧ f'.lv = f.lv ∧ f'.now = z ∧ f'.bn = f.bn + 1 ∧ f'.ls = f.ls ++ [c] ∧ f'.c0 = f.c0 ∧ f'.c1 = f.c1 ∧ f'.c2 = f.c2 ∧ f'.c6 = f.c6 ∧ f'.c7 = f.c7 := by
  have hR' : w3.ownsRow base 88 3 v (f1.ls ++ [c]).length (rowOfD (f1.ls ++ [c])) := by rw [rowOfD_app]; simpa using hR
  have hg' : wx.grownBy w3 f1.lo.ownBlock := ⟨hg.os, hg.tape, hg.output, Nat.le_trans (by simp) hg.size, fun k hk hn => (hg.block k (by simp; omega) hn).trans (Below.heap_alloc wx.drew O k hk)⟩
  have lt1 : ∀ k ∈ c.ro, wx.heap[k]? = w.heap[k]? := fun k hk => h.ft.turn.block k (hv.lt k hk).2 (hap k hk)
  have ft := dloose_turn h.ft.fil hR' hg' (hat.imp id (fun e g hg => by rw [e] at hg; cases hg; simp)) (fun x hx => by
    rcases List.mem_append.1 hx with hx | hx
    · exact ⟨h.ft.fil.chg x hx, h.ft.fil.ap x hx⟩
    · simp at hx
      subst hx
      refine ⟨hv.keep lt1, fun k hk hm => ?_⟩
      rcases h.ft.sub k hm with h' | h'
      · exact hap k hk h'
      · have := (hv.lt k hk).2; omega)
  exact ⟨_, h.ft.trans ft, h.last, h.last'.2, h.last'.1, h.now, h.bn, by rw [← h.ls], h.oth.1, h.oth.2.1, h.oth.2.2.1, h.oth.2.2.2.1, h.oth.2.2.2.2⟩
set_option maxHeartbeats 2000000 in
theorem dchange_nm (w : World) (base b : Nat) (f : Dr) (name : ByteArray) (num : Nat) (d : Value) (ro : List Nat) (h : Dir w base b f) (hv : Dv w base (.nm name num) d ro) (hap : ∀ k ∈ ro, k ∉ f.mut b) (hok : Dc.ok (.nm name num) f.now) (hs : f.bn < 1000000000) (hls : f.ls.length ≤ 1000000000) (hbase : base ≤ w.heap.size) :
    Calls Try.prog 42 #[.pointer (some ⟨b, 3, none⟩), .agg #[d, .int .i64 0, .bool false]] w fun e w' => e = .returned (.tuple #[]) ∧ ∃ f', Dt w w' base b f f' ∧ f'.last = f.last ∧ f'.bl = f.bl ∧ f'.lv = f.lv ∧ f'.now = (.nm name num : Dc).do f.now ∧ f'.bn = f.bn + 1 ∧ f'.ls = f.ls ++ [⟨d, .nm name num, ro⟩] ∧ f'.c0 = f.c0 ∧ f'.c1 = f.c1 ∧ f'.c2 = f.c2 ∧ f'.c6 = f.c6 ∧ f'.c7 = f.c7 := by
  obtain ⟨i0, i0i, hz0, hz1, hz2⟩ := info_parts Try.info88
  obtain ⟨mo, hnv⟩ := h.now.shape
  obtain ⟨Z, hZ⟩ : ∃ Z, Dc.do (.nm name num) f.now = Z := ⟨_, rfl⟩
  obtain ⟨nb, sb, hd⟩ : ∃ nb sb, d = .func (.func 65) #[] #[.pointer (some ⟨nb, 0, none⟩), .pointer (some ⟨sb, 0, none⟩)] := by
    obtain ⟨nb, sb, e, _⟩ := hv
    exact ⟨nb, sb, e⟩
  obtain ⟨C, hC0⟩ : ∃ C, C = Obj.cells #[.func (.func 65) #[] #[.pointer (some ⟨nb, 0, none⟩), .pointer (some ⟨sb, 0, none⟩)], .int .i64 0, .bool false] 88 (0, 0) := ⟨_, rfl⟩
  have hbl := lt_of_block h.blk
  have hb0 : (w.alloc C).heap[b]? = some (.cells #[f.c0, f.c1, f.c2, f.lv, f.lo, f.nv, f.c6, f.c7] 69 (0, 0)) := (Below.heap_alloc w C b hbl).trans h.blk
  have c2 : (w.alloc C).drew.cell? ⟨b, 5, none⟩ = some f.nv := (by rw [cell_block hb0]; rfl : (w.alloc C).cell? ⟨b, 5, none⟩ = some f.nv)
  have hw0 : ∀ k, k < w.heap.size → (w.alloc C).drew.heap[k]? = w.heap[k]? := fun k hk => Below.heap_alloc w C k hk
  have hD := ddo_any (w.alloc C).drew base (.nm name num) d ro mo f.now f.bn (hv.keep fun k hk => hw0 k (hv.lt k hk).2) (by rw [← hnv]; exact h.now.keep fun k hk => hw0 k (h.now.low hk).2) hok hs (by simp; omega) nb sb hd
  have e0 : (w.alloc C).heap[w.heap.size]? = some (.cells #[.func (.func 65) #[] #[.pointer (some ⟨nb, 0, none⟩), .pointer (some ⟨sb, 0, none⟩)], .int .i64 0, .bool false] 88 (0, 0)) := (Go.heap_alloc_new w C).trans (by rw [hC0])
  have f0 : (w.alloc C).drew.cell? ⟨w.heap.size, 0, none⟩ = some (.func (.func 65) #[] #[.pointer (some ⟨nb, 0, none⟩), .pointer (some ⟨sb, 0, none⟩)]) := (by rw [cell_block e0]; rfl : (w.alloc C).cell? ⟨w.heap.size, 0, none⟩ = some (.func (.func 65) #[] #[.pointer (some ⟨nb, 0, none⟩), .pointer (some ⟨sb, 0, none⟩)]))
  have f1 : (w.alloc C).drew.cell? ⟨w.heap.size, 1, none⟩ = some (.int .i64 0) := (by rw [cell_block e0]; rfl : (w.alloc C).cell? ⟨w.heap.size, 1, none⟩ = some (.int .i64 0))
  have HD : Hid (Calls Try.prog 65 #[.map mo, .int .i64 0, .pointer (some ⟨nb, 0, none⟩), .pointer (some ⟨sb, 0, none⟩)] (w.alloc C).drew fun e w1 => ∃ m1, e = .returned (.map m1) ∧ w1.cell? ⟨b, 5, none⟩ = some f.nv ∧ w1.frozen? ⟨b, 5, none⟩ = false ∧ ∃ f1, Mdd w (w1.setCell ⟨b, 5, none⟩ (.map m1)) base b f C Z f1) := by
    refine Calls.mono hD ?_
    rintro e w1 ⟨m1, rfl, hB, hg, hat⟩
    rw [hZ] at hB
    rw [← hnv] at hg hat
    obtain ⟨f1, hm⟩ := mdd_of h hB hg hat
    have nb := ((nod3 b (mblk f.lv) (mblk f.nv) f.lo.ownBlock).1 h.nod).2.1
    have hb1 : w1.heap[b]? = some (.cells #[f.c0, f.c1, f.c2, f.lv, f.lo, f.nv, f.c6, f.c7] 69 (0, 0)) := (hg.block b (lt_of_block hb0) (fun e => nb e.symm)).trans hb0
    exact ⟨m1, rfl, by rw [cell_block hb1]; rfl, by simp [World.frozen?, hb1], f1, hm⟩
  have HE : Hid (∀ wx f1, Mdd w wx base b f C Z f1 → wx.drew.cell? ⟨b, 4, none⟩ = some f1.lo ∧ wx.drew.frozen? ⟨b, 4, none⟩ = false ∧ wx.drew.cell? ⟨w.heap.size, 0, none⟩ = some (.func (.func 65) #[] #[.pointer (some ⟨nb, 0, none⟩), .pointer (some ⟨sb, 0, none⟩)]) ∧ wx.drew.cell? ⟨w.heap.size, 1, none⟩ = some (.int .i64 0) ∧ wx.drew.cell? ⟨w.heap.size, 2, none⟩ = some (.bool false) ∧ (∃ a1 n1 k1, f1.lo = .slice a1 n1 k1) ∧ ∀ O, (wx.drew.alloc O).ownsRow base 88 3 f1.lo f1.ls.length (rowOfD f1.ls) ∧ base ≤ (wx.drew.alloc O).heap.size) := by
    intro wx f1 hm
    have q1 := hm.ft.fil.blk
    have q2 := hm.blk
    rw [hC0] at q2
    refine ⟨(by rw [cell_block q1]; rfl : wx.cell? ⟨b, 4, none⟩ = some f1.lo), (by simp [World.frozen?, q1] : wx.frozen? ⟨b, 4, none⟩ = false), (by rw [cell_block q2]; rfl : wx.cell? ⟨w.heap.size, 0, none⟩ = _), (by rw [cell_block q2]; rfl : wx.cell? ⟨w.heap.size, 1, none⟩ = _), (by rw [cell_block q2]; rfl : wx.cell? ⟨w.heap.size, 2, none⟩ = _), ?_, fun O => ⟨?_, ?_⟩⟩
    · obtain ⟨a1, k1, e⟩ := own_slice hm.ft.fil.row
      exact ⟨a1, _, k1, e⟩
    · exact own_keep hm.ft.fil.row fun k hk => Below.heap_alloc wx.drew O k (hm.ft.fil.row.lt k hk).2
    · have := hm.ft.turn.size; simp; omega
  have HG : Hid (∀ wx w3 f1 O v, Mdd w wx base b f C Z f1 → w3.ownsRow base 88 3 v (f1.ls.length + 1) (rowOfD f1.ls ++ [.func (.func 65) #[] #[.pointer (some ⟨nb, 0, none⟩), .pointer (some ⟨sb, 0, none⟩)], .int .i64 0, .bool false]) → (wx.drew.alloc O).grownBy w3 f1.lo.ownBlock → (v.ownBlock = f1.lo.ownBlock ∨ v.ownBlock = some (wx.drew.alloc O).heap.size) → (∃ a1 n1 k1, v = .slice a1 n1 k1) ∧ w3.cell? ⟨b, 4, none⟩ = some f1.lo ∧ w3.frozen? ⟨b, 4, none⟩ = false ∧ ∃ f', Dt w (w3.setCell ⟨b, 4, none⟩ v) base b f f' ∧ f'.last = f.last ∧ f'.bl = f.bl ∧ f'.lv = f.lv ∧ f'.now = Z ∧ f'.bn = f.bn + 1 ∧ f'.ls = f.ls ++ [⟨.func (.func 65) #[] #[.pointer (some ⟨nb, 0, none⟩), .pointer (some ⟨sb, 0, none⟩)], .nm name num, ro⟩] ∧ f'.c0 = f.c0 ∧ f'.c1 = f.c1 ∧ f'.c2 = f.c2 ∧ f'.c6 = f.c6 ∧ f'.c7 = f.c7) := by
    intro wx w3 f1 O v hm hR hg hat
    have hR' : w3.ownsRow base 88 3 v (f1.ls.length + 1) (rowOfD f1.ls ++ Ld.cells ⟨d, .nm name num, ro⟩) := by
      rw [← hd] at hR; exact hR
    obtain ⟨a1, k1, e⟩ := own_slice hR
    have q1 := hm.ft.fil.blk
    have nb := ((nod3 b (mblk f1.lv) (mblk f1.nv) f1.lo.ownBlock).1 hm.ft.fil.nod).2.2.1
    have q3 : w3.heap[b]? = some (.cells #[f1.c0, f1.c1, f1.c2, f1.lv, f1.lo, f1.nv, f1.c6, f1.c7] 69 (0, 0)) := (hg.block b (by have := lt_of_block q1; simp; omega) (fun e => nb e.symm)).trans ((Below.heap_alloc wx.drew O b (lt_of_block q1)).trans q1)
    exact ⟨⟨a1, _, k1, e⟩, by rw [cell_block q3]; rfl, by simp [World.frozen?, q3], by have := mde_of hm hv hap hR' hg hat; rw [hd] at this; exact this⟩
  have HLs : Hid (∀ wx f1, Mdd w wx base b f C Z f1 → f1.ls.length ≤ 1000000000) := fun wx f1 hm => by rw [hm.ls]; exact hls
  rw [hnv] at c2
  have hnv' : Hid (f.nv = .map mo) := hnv
  rw [hZ, hd]
  clear hD h hv hap hok hs hb0 hw0 e0 hnv hZ hbl hd hls
  subst hC0
  go_enter Try.func42, Try.ntmps42
  go_upto_region 1 with fail
  go_cut [] (fun wx => ∃ f1, Hid (Mdd w wx base b f (Obj.cells #[.func (.func 65) #[] #[.pointer (some ⟨nb, 0, none⟩), .pointer (some ⟨sb, 0, none⟩)], .int .i64 0, .bool false] 88 (0, 0)) Z f1))
  case first =>
    go_region_with (first | (go_at_call 65; refine HD.out.mono ?_; rintro e w1 ⟨m1, rfl, x0, x1, hm⟩; rw [hnv'.out] at x0; have HM : Hid (∃ f1, Mdd w (w1.setCell ⟨b, 5, none⟩ (.map m1)) base b f (Obj.cells #[.func (.func 65) #[] #[.pointer (some ⟨nb, 0, none⟩), .pointer (some ⟨sb, 0, none⟩)], .int .i64 0, .bool false] 88 (0, 0)) Z f1) := hm; clear hm))
    all_goals
      go_wp2_with fail
      go_meet
      case rel => obtain ⟨f1, hm⟩ := HM.out; exact ⟨f1, hm⟩
  case rest =>
    obtain ⟨f1', HM⟩ := hcut
    obtain ⟨y1, y2, y3, y4, y5, ⟨a1, n1, k1, hlo⟩, hO⟩ := HE.out _ _ HM.out
    have HLo : Hid (f1'.lo = .slice a1 n1 k1) := hlo
    rw [hlo] at y1
    have hLL := HLs.out _ _ HM.out
    have HLL : Hid (f1'.ls.length + 1 ≤ maxLen ∧ (f1'.ls.length + 1) * 24 ≤ 140737488355328) := ⟨by unfold maxLen; omega, by omega⟩
    have HOw : Hid ((wc.drew.alloc (Obj.cells #[.func (.func 65) #[] #[.pointer (some ⟨nb, 0, none⟩), .pointer (some ⟨sb, 0, none⟩)], .int .i64 0, .bool false] 88 (0, 0))).ownsRow base 88 3 (.slice a1 n1 k1) f1'.ls.length (rowOfD f1'.ls)) := (by rw [← hlo]; exact (hO _).1 : (wc.drew.alloc (Obj.cells #[.func (.func 65) #[] #[.pointer (some ⟨nb, 0, none⟩), .pointer (some ⟨sb, 0, none⟩)], .int .i64 0, .bool false] 88 (0, 0))).ownsRow base 88 3 (.slice a1 n1 k1) f1'.ls.length (rowOfD f1'.ls))
    have HOb : Hid (base ≤ (wc.drew.alloc (Obj.cells #[.func (.func 65) #[] #[.pointer (some ⟨nb, 0, none⟩), .pointer (some ⟨sb, 0, none⟩)], .int .i64 0, .bool false] 88 (0, 0))).heap.size) := (hO _).2
    have y1' : (wc.drew.alloc (Obj.cells #[.func (.func 65) #[] #[.pointer (some ⟨nb, 0, none⟩), .pointer (some ⟨sb, 0, none⟩)], .int .i64 0, .bool false] 88 (0, 0))).cell? ⟨b, 4, none⟩ = some (.slice a1 n1 k1) := cell_of_below ((Below.refl _ _).alloc (Nat.le_refl _) _) y1
    have y1'' : (wc.alloc (Obj.cells #[.func (.func 65) #[] #[.pointer (some ⟨nb, 0, none⟩), .pointer (some ⟨sb, 0, none⟩)], .int .i64 0, .bool false] 88 (0, 0))).drew.cell? ⟨b, 4, none⟩ = some (.slice a1 n1 k1) := y1'
    have HNw : Hid (∀ j u, ([.func (.func 65) #[] #[.pointer (some ⟨nb, 0, none⟩), .pointer (some ⟨sb, 0, none⟩)], .int .i64 0, .bool false] : List Value)[j]? = some u → (wc.drew.alloc (Obj.cells #[.func (.func 65) #[] #[.pointer (some ⟨nb, 0, none⟩), .pointer (some ⟨sb, 0, none⟩)], .int .i64 0, .bool false] 88 (0, 0))).cell? ((⟨wc.heap.size, 0, none⟩ : Addr).add j) = some u) := by
      intro j u hj
      have e : (wc.drew.alloc (Obj.cells #[.func (.func 65) #[] #[.pointer (some ⟨nb, 0, none⟩), .pointer (some ⟨sb, 0, none⟩)], .int .i64 0, .bool false] 88 (0, 0))).heap[wc.heap.size]? = some (Obj.cells #[.func (.func 65) #[] #[.pointer (some ⟨nb, 0, none⟩), .pointer (some ⟨sb, 0, none⟩)], .int .i64 0, .bool false] 88 (0, 0)) := Go.heap_alloc_new wc.drew _
      rw [Go.WideShapes.add_plain, cell_block e]
      simpa using hj
    have HOn : Hid (∀ u ∈ ([.func (.func 65) #[] #[.pointer (some ⟨nb, 0, none⟩), .pointer (some ⟨sb, 0, none⟩)], .int .i64 0, .bool false] : List Value), u.oneCell' = true) := by
      intro u hu
      simp at hu
      rcases hu with rfl | rfl | rfl <;> rfl
    clear hO hlo hLL
    go_wp2_with fail
    go_region_law (refine step_append_at rfl (.tmp 20) (.tmp 22) 63 rfl base 88 i0 (.agg #[.nilFunc, .int .i64 0, .bool false]) 3 24 Try.underlying63 i0i hz0 hz1 hz2 rfl (by decide) (.slice a1 n1 k1) f1'.ls.length (rowOfD f1'.ls) rfl HOw.out ⟨wc.heap.size, 0, none⟩ 1 1 [.func (.func 65) #[] #[.pointer (some ⟨nb, 0, none⟩), .pointer (some ⟨sb, 0, none⟩)], .int .i64 0, .bool false] rfl rfl HNw.out HOn.out HLL.out.1 HLL.out.2 HOb.out ?_; intro v3 w3 hR hg hat; rw [← HLo.out] at hg hat; obtain ⟨⟨a3, n3, k3, hv3⟩, s1, s2, hf⟩ := HG.out wc w3 f1' _ v3 HM.out hR hg hat; subst hv3; rw [HLo.out] at s1; have HF : Hid (∃ f', Dt w (w3.setCell ⟨b, 4, none⟩ (.slice a3 n3 k3)) base b f f' ∧ f'.last = f.last ∧ f'.bl = f.bl ∧ f'.lv = f.lv ∧ f'.now = Z ∧ f'.bn = f.bn + 1 ∧ f'.ls = f.ls ++ [⟨.func (.func 65) #[] #[.pointer (some ⟨nb, 0, none⟩), .pointer (some ⟨sb, 0, none⟩)], .nm name num, ro⟩] ∧ f'.c0 = f.c0 ∧ f'.c1 = f.c1 ∧ f'.c2 = f.c2 ∧ f'.c6 = f.c6 ∧ f'.c7 = f.c7) := hf; clear hR hg hat hf)
    all_goals
      go_wp2_with fail
      go_end0
      exact ⟨rfl, HF.out⟩
set_option maxHeartbeats 2000000 in
theorem dchange_rn (w : World) (base b : Nat) (f : Dr) (fr to_ : ByteArray) (num : Nat) (d : Value) (ro : List Nat) (h : Dir w base b f) (hv : Dv w base (.rn fr to_ num) d ro) (hap : ∀ k ∈ ro, k ∉ f.mut b) (hok : Dc.ok (.rn fr to_ num) f.now) (hs : f.bn < 1000000000) (hls : f.ls.length ≤ 1000000000) (hbase : base ≤ w.heap.size) :
    Calls Try.prog 42 #[.pointer (some ⟨b, 3, none⟩), .agg #[d, .int .i64 0, .bool false]] w fun e w' => e = .returned (.tuple #[]) ∧ ∃ f', Dt w w' base b f f' ∧ f'.last = f.last ∧ f'.bl = f.bl ∧ f'.lv = f.lv ∧ f'.now = (.rn fr to_ num : Dc).do f.now ∧ f'.bn = f.bn + 1 ∧ f'.ls = f.ls ++ [⟨d, .rn fr to_ num, ro⟩] ∧ f'.c0 = f.c0 ∧ f'.c1 = f.c1 ∧ f'.c2 = f.c2 ∧ f'.c6 = f.c6 ∧ f'.c7 = f.c7 := by
  obtain ⟨i0, i0i, hz0, hz1, hz2⟩ := info_parts Try.info88
  obtain ⟨mo, hnv⟩ := h.now.shape
  obtain ⟨Z, hZ⟩ : ∃ Z, Dc.do (.rn fr to_ num) f.now = Z := ⟨_, rfl⟩
  obtain ⟨fb, nb, tb, hd⟩ : ∃ fb nb tb, d = .func (.func 68) #[] #[.pointer (some ⟨fb, 0, none⟩), .pointer (some ⟨nb, 0, none⟩), .pointer (some ⟨tb, 0, none⟩)] := by
    obtain ⟨fb, nb, tb, e, _⟩ := hv
    exact ⟨fb, nb, tb, e⟩
  obtain ⟨C, hC0⟩ : ∃ C, C = Obj.cells #[.func (.func 68) #[] #[.pointer (some ⟨fb, 0, none⟩), .pointer (some ⟨nb, 0, none⟩), .pointer (some ⟨tb, 0, none⟩)], .int .i64 0, .bool false] 88 (0, 0) := ⟨_, rfl⟩
  have hbl := lt_of_block h.blk
  have hb0 : (w.alloc C).heap[b]? = some (.cells #[f.c0, f.c1, f.c2, f.lv, f.lo, f.nv, f.c6, f.c7] 69 (0, 0)) := (Below.heap_alloc w C b hbl).trans h.blk
  have c2 : (w.alloc C).drew.cell? ⟨b, 5, none⟩ = some f.nv := (by rw [cell_block hb0]; rfl : (w.alloc C).cell? ⟨b, 5, none⟩ = some f.nv)
  have hw0 : ∀ k, k < w.heap.size → (w.alloc C).drew.heap[k]? = w.heap[k]? := fun k hk => Below.heap_alloc w C k hk
  have hD := ddo_any (w.alloc C).drew base (.rn fr to_ num) d ro mo f.now f.bn (hv.keep fun k hk => hw0 k (hv.lt k hk).2) (by rw [← hnv]; exact h.now.keep fun k hk => hw0 k (h.now.low hk).2) hok hs (by simp; omega) fb nb tb hd
  have e0 : (w.alloc C).heap[w.heap.size]? = some (.cells #[.func (.func 68) #[] #[.pointer (some ⟨fb, 0, none⟩), .pointer (some ⟨nb, 0, none⟩), .pointer (some ⟨tb, 0, none⟩)], .int .i64 0, .bool false] 88 (0, 0)) := (Go.heap_alloc_new w C).trans (by rw [hC0])
  have f0 : (w.alloc C).drew.cell? ⟨w.heap.size, 0, none⟩ = some (.func (.func 68) #[] #[.pointer (some ⟨fb, 0, none⟩), .pointer (some ⟨nb, 0, none⟩), .pointer (some ⟨tb, 0, none⟩)]) := (by rw [cell_block e0]; rfl : (w.alloc C).cell? ⟨w.heap.size, 0, none⟩ = some (.func (.func 68) #[] #[.pointer (some ⟨fb, 0, none⟩), .pointer (some ⟨nb, 0, none⟩), .pointer (some ⟨tb, 0, none⟩)]))
  have f1 : (w.alloc C).drew.cell? ⟨w.heap.size, 1, none⟩ = some (.int .i64 0) := (by rw [cell_block e0]; rfl : (w.alloc C).cell? ⟨w.heap.size, 1, none⟩ = some (.int .i64 0))
  have HD : Hid (Calls Try.prog 68 #[.map mo, .int .i64 0, .pointer (some ⟨fb, 0, none⟩), .pointer (some ⟨nb, 0, none⟩), .pointer (some ⟨tb, 0, none⟩)] (w.alloc C).drew fun e w1 => ∃ m1, e = .returned (.map m1) ∧ w1.cell? ⟨b, 5, none⟩ = some f.nv ∧ w1.frozen? ⟨b, 5, none⟩ = false ∧ ∃ f1, Mdd w (w1.setCell ⟨b, 5, none⟩ (.map m1)) base b f C Z f1) := by
    refine Calls.mono hD ?_
    rintro e w1 ⟨m1, rfl, hB, hg, hat⟩
    rw [hZ] at hB
    rw [← hnv] at hg hat
    obtain ⟨f1, hm⟩ := mdd_of h hB hg hat
    have nb := ((nod3 b (mblk f.lv) (mblk f.nv) f.lo.ownBlock).1 h.nod).2.1
    have hb1 : w1.heap[b]? = some (.cells #[f.c0, f.c1, f.c2, f.lv, f.lo, f.nv, f.c6, f.c7] 69 (0, 0)) := (hg.block b (lt_of_block hb0) (fun e => nb e.symm)).trans hb0
    exact ⟨m1, rfl, by rw [cell_block hb1]; rfl, by simp [World.frozen?, hb1], f1, hm⟩
  have HE : Hid (∀ wx f1, Mdd w wx base b f C Z f1 → wx.drew.cell? ⟨b, 4, none⟩ = some f1.lo ∧ wx.drew.frozen? ⟨b, 4, none⟩ = false ∧ wx.drew.cell? ⟨w.heap.size, 0, none⟩ = some (.func (.func 68) #[] #[.pointer (some ⟨fb, 0, none⟩), .pointer (some ⟨nb, 0, none⟩), .pointer (some ⟨tb, 0, none⟩)]) ∧ wx.drew.cell? ⟨w.heap.size, 1, none⟩ = some (.int .i64 0) ∧ wx.drew.cell? ⟨w.heap.size, 2, none⟩ = some (.bool false) ∧ (∃ a1 n1 k1, f1.lo = .slice a1 n1 k1) ∧ ∀ O, (wx.drew.alloc O).ownsRow base 88 3 f1.lo f1.ls.length (rowOfD f1.ls) ∧ base ≤ (wx.drew.alloc O).heap.size) := by
    intro wx f1 hm
    have q1 := hm.ft.fil.blk
    have q2 := hm.blk
    rw [hC0] at q2
    refine ⟨(by rw [cell_block q1]; rfl : wx.cell? ⟨b, 4, none⟩ = some f1.lo), (by simp [World.frozen?, q1] : wx.frozen? ⟨b, 4, none⟩ = false), (by rw [cell_block q2]; rfl : wx.cell? ⟨w.heap.size, 0, none⟩ = _), (by rw [cell_block q2]; rfl : wx.cell? ⟨w.heap.size, 1, none⟩ = _), (by rw [cell_block q2]; rfl : wx.cell? ⟨w.heap.size, 2, none⟩ = _), ?_, fun O => ⟨?_, ?_⟩⟩
    · obtain ⟨a1, k1, e⟩ := own_slice hm.ft.fil.row
      exact ⟨a1, _, k1, e⟩
    · exact own_keep hm.ft.fil.row fun k hk => Below.heap_alloc wx.drew O k (hm.ft.fil.row.lt k hk).2
    · have := hm.ft.turn.size; simp; omega
  have HG : Hid (∀ wx w3 f1 O v, Mdd w wx base b f C Z f1 → w3.ownsRow base 88 3 v (f1.ls.length + 1) (rowOfD f1.ls ++ [.func (.func 68) #[] #[.pointer (some ⟨fb, 0, none⟩), .pointer (some ⟨nb, 0, none⟩), .pointer (some ⟨tb, 0, none⟩)], .int .i64 0, .bool false]) → (wx.drew.alloc O).grownBy w3 f1.lo.ownBlock → (v.ownBlock = f1.lo.ownBlock ∨ v.ownBlock = some (wx.drew.alloc O).heap.size) → (∃ a1 n1 k1, v = .slice a1 n1 k1) ∧ w3.cell? ⟨b, 4, none⟩ = some f1.lo ∧ w3.frozen? ⟨b, 4, none⟩ = false ∧ ∃ f', Dt w (w3.setCell ⟨b, 4, none⟩ v) base b f f' ∧ f'.last = f.last ∧ f'.bl = f.bl ∧ f'.lv = f.lv ∧ f'.now = Z ∧ f'.bn = f.bn + 1 ∧ f'.ls = f.ls ++ [⟨.func (.func 68) #[] #[.pointer (some ⟨fb, 0, none⟩), .pointer (some ⟨nb, 0, none⟩), .pointer (some ⟨tb, 0, none⟩)], .rn fr to_ num, ro⟩] ∧ f'.c0 = f.c0 ∧ f'.c1 = f.c1 ∧ f'.c2 = f.c2 ∧ f'.c6 = f.c6 ∧ f'.c7 = f.c7) := by
    intro wx w3 f1 O v hm hR hg hat
    have hR' : w3.ownsRow base 88 3 v (f1.ls.length + 1) (rowOfD f1.ls ++ Ld.cells ⟨d, .rn fr to_ num, ro⟩) := by
      rw [← hd] at hR; exact hR
    obtain ⟨a1, k1, e⟩ := own_slice hR
    have q1 := hm.ft.fil.blk
    have nb := ((nod3 b (mblk f1.lv) (mblk f1.nv) f1.lo.ownBlock).1 hm.ft.fil.nod).2.2.1
    have q3 : w3.heap[b]? = some (.cells #[f1.c0, f1.c1, f1.c2, f1.lv, f1.lo, f1.nv, f1.c6, f1.c7] 69 (0, 0)) := (hg.block b (by have := lt_of_block q1; simp; omega) (fun e => nb e.symm)).trans ((Below.heap_alloc wx.drew O b (lt_of_block q1)).trans q1)
    exact ⟨⟨a1, _, k1, e⟩, by rw [cell_block q3]; rfl, by simp [World.frozen?, q3], by have := mde_of hm hv hap hR' hg hat; rw [hd] at this; exact this⟩
  have HLs : Hid (∀ wx f1, Mdd w wx base b f C Z f1 → f1.ls.length ≤ 1000000000) := fun wx f1 hm => by rw [hm.ls]; exact hls
  rw [hnv] at c2
  have hnv' : Hid (f.nv = .map mo) := hnv
  rw [hZ, hd]
  clear hD h hv hap hok hs hb0 hw0 e0 hnv hZ hbl hd hls
  subst hC0
  go_enter Try.func42, Try.ntmps42
  go_upto_region 1 with fail
  go_cut [] (fun wx => ∃ f1, Hid (Mdd w wx base b f (Obj.cells #[.func (.func 68) #[] #[.pointer (some ⟨fb, 0, none⟩), .pointer (some ⟨nb, 0, none⟩), .pointer (some ⟨tb, 0, none⟩)], .int .i64 0, .bool false] 88 (0, 0)) Z f1))
  case first =>
    go_region_with (first | (go_at_call 68; refine HD.out.mono ?_; rintro e w1 ⟨m1, rfl, x0, x1, hm⟩; rw [hnv'.out] at x0; have HM : Hid (∃ f1, Mdd w (w1.setCell ⟨b, 5, none⟩ (.map m1)) base b f (Obj.cells #[.func (.func 68) #[] #[.pointer (some ⟨fb, 0, none⟩), .pointer (some ⟨nb, 0, none⟩), .pointer (some ⟨tb, 0, none⟩)], .int .i64 0, .bool false] 88 (0, 0)) Z f1) := hm; clear hm))
    all_goals
      go_wp2_with fail
      go_meet
      case rel => obtain ⟨f1, hm⟩ := HM.out; exact ⟨f1, hm⟩
  case rest =>
    obtain ⟨f1', HM⟩ := hcut
    obtain ⟨y1, y2, y3, y4, y5, ⟨a1, n1, k1, hlo⟩, hO⟩ := HE.out _ _ HM.out
    have HLo : Hid (f1'.lo = .slice a1 n1 k1) := hlo
    rw [hlo] at y1
    have hLL := HLs.out _ _ HM.out
    have HLL : Hid (f1'.ls.length + 1 ≤ maxLen ∧ (f1'.ls.length + 1) * 24 ≤ 140737488355328) := ⟨by unfold maxLen; omega, by omega⟩
    have HOw : Hid ((wc.drew.alloc (Obj.cells #[.func (.func 68) #[] #[.pointer (some ⟨fb, 0, none⟩), .pointer (some ⟨nb, 0, none⟩), .pointer (some ⟨tb, 0, none⟩)], .int .i64 0, .bool false] 88 (0, 0))).ownsRow base 88 3 (.slice a1 n1 k1) f1'.ls.length (rowOfD f1'.ls)) := (by rw [← hlo]; exact (hO _).1 : (wc.drew.alloc (Obj.cells #[.func (.func 68) #[] #[.pointer (some ⟨fb, 0, none⟩), .pointer (some ⟨nb, 0, none⟩), .pointer (some ⟨tb, 0, none⟩)], .int .i64 0, .bool false] 88 (0, 0))).ownsRow base 88 3 (.slice a1 n1 k1) f1'.ls.length (rowOfD f1'.ls))
    have HOb : Hid (base ≤ (wc.drew.alloc (Obj.cells #[.func (.func 68) #[] #[.pointer (some ⟨fb, 0, none⟩), .pointer (some ⟨nb, 0, none⟩), .pointer (some ⟨tb, 0, none⟩)], .int .i64 0, .bool false] 88 (0, 0))).heap.size) := (hO _).2
    have y1' : (wc.drew.alloc (Obj.cells #[.func (.func 68) #[] #[.pointer (some ⟨fb, 0, none⟩), .pointer (some ⟨nb, 0, none⟩), .pointer (some ⟨tb, 0, none⟩)], .int .i64 0, .bool false] 88 (0, 0))).cell? ⟨b, 4, none⟩ = some (.slice a1 n1 k1) := cell_of_below ((Below.refl _ _).alloc (Nat.le_refl _) _) y1
    have y1'' : (wc.alloc (Obj.cells #[.func (.func 68) #[] #[.pointer (some ⟨fb, 0, none⟩), .pointer (some ⟨nb, 0, none⟩), .pointer (some ⟨tb, 0, none⟩)], .int .i64 0, .bool false] 88 (0, 0))).drew.cell? ⟨b, 4, none⟩ = some (.slice a1 n1 k1) := y1'
    have HNw : Hid (∀ j u, ([.func (.func 68) #[] #[.pointer (some ⟨fb, 0, none⟩), .pointer (some ⟨nb, 0, none⟩), .pointer (some ⟨tb, 0, none⟩)], .int .i64 0, .bool false] : List Value)[j]? = some u → (wc.drew.alloc (Obj.cells #[.func (.func 68) #[] #[.pointer (some ⟨fb, 0, none⟩), .pointer (some ⟨nb, 0, none⟩), .pointer (some ⟨tb, 0, none⟩)], .int .i64 0, .bool false] 88 (0, 0))).cell? ((⟨wc.heap.size, 0, none⟩ : Addr).add j) = some u) := by
      intro j u hj
      have e : (wc.drew.alloc (Obj.cells #[.func (.func 68) #[] #[.pointer (some ⟨fb, 0, none⟩), .pointer (some ⟨nb, 0, none⟩), .pointer (some ⟨tb, 0, none⟩)], .int .i64 0, .bool false] 88 (0, 0))).heap[wc.heap.size]? = some (Obj.cells #[.func (.func 68) #[] #[.pointer (some ⟨fb, 0, none⟩), .pointer (some ⟨nb, 0, none⟩), .pointer (some ⟨tb, 0, none⟩)], .int .i64 0, .bool false] 88 (0, 0)) := Go.heap_alloc_new wc.drew _
      rw [Go.WideShapes.add_plain, cell_block e]
      simpa using hj
    have HOn : Hid (∀ u ∈ ([.func (.func 68) #[] #[.pointer (some ⟨fb, 0, none⟩), .pointer (some ⟨nb, 0, none⟩), .pointer (some ⟨tb, 0, none⟩)], .int .i64 0, .bool false] : List Value), u.oneCell' = true) := by
      intro u hu
      simp at hu
      rcases hu with rfl | rfl | rfl <;> rfl
    clear hO hlo hLL
    go_wp2_with fail
    go_region_law (refine step_append_at rfl (.tmp 20) (.tmp 22) 63 rfl base 88 i0 (.agg #[.nilFunc, .int .i64 0, .bool false]) 3 24 Try.underlying63 i0i hz0 hz1 hz2 rfl (by decide) (.slice a1 n1 k1) f1'.ls.length (rowOfD f1'.ls) rfl HOw.out ⟨wc.heap.size, 0, none⟩ 1 1 [.func (.func 68) #[] #[.pointer (some ⟨fb, 0, none⟩), .pointer (some ⟨nb, 0, none⟩), .pointer (some ⟨tb, 0, none⟩)], .int .i64 0, .bool false] rfl rfl HNw.out HOn.out HLL.out.1 HLL.out.2 HOb.out ?_; intro v3 w3 hR hg hat; rw [← HLo.out] at hg hat; obtain ⟨⟨a3, n3, k3, hv3⟩, s1, s2, hf⟩ := HG.out wc w3 f1' _ v3 HM.out hR hg hat; subst hv3; rw [HLo.out] at s1; have HF : Hid (∃ f', Dt w (w3.setCell ⟨b, 4, none⟩ (.slice a3 n3 k3)) base b f f' ∧ f'.last = f.last ∧ f'.bl = f.bl ∧ f'.lv = f.lv ∧ f'.now = Z ∧ f'.bn = f.bn + 1 ∧ f'.ls = f.ls ++ [⟨.func (.func 68) #[] #[.pointer (some ⟨fb, 0, none⟩), .pointer (some ⟨nb, 0, none⟩), .pointer (some ⟨tb, 0, none⟩)], .rn fr to_ num, ro⟩] ∧ f'.c0 = f.c0 ∧ f'.c1 = f.c1 ∧ f'.c2 = f.c2 ∧ f'.c6 = f.c6 ∧ f'.c7 = f.c7) := hf; clear hR hg hat hf)
    all_goals
      go_wp2_with fail
      go_end0
      exact ⟨rfl, HF.out⟩
set_option maxHeartbeats 2000000 in
theorem dchange_rm (w : World) (base b : Nat) (f : Dr) (name : ByteArray) (d : Value) (ro : List Nat) (h : Dir w base b f) (hv : Dv w base (.rm name) d ro) (hap : ∀ k ∈ ro, k ∉ f.mut b) (hok : Dc.ok (.rm name) f.now) (hs : f.bn < 1000000000) (hls : f.ls.length ≤ 1000000000) (hbase : base ≤ w.heap.size) :
    Calls Try.prog 42 #[.pointer (some ⟨b, 3, none⟩), .agg #[d, .int .i64 0, .bool false]] w fun e w' => e = .returned (.tuple #[]) ∧ ∃ f', Dt w w' base b f f' ∧ f'.last = f.last ∧ f'.bl = f.bl ∧ f'.lv = f.lv ∧ f'.now = (.rm name : Dc).do f.now ∧ f'.bn = f.bn + 1 ∧ f'.ls = f.ls ++ [⟨d, .rm name, ro⟩] ∧ f'.c0 = f.c0 ∧ f'.c1 = f.c1 ∧ f'.c2 = f.c2 ∧ f'.c6 = f.c6 ∧ f'.c7 = f.c7 := by
  obtain ⟨i0, i0i, hz0, hz1, hz2⟩ := info_parts Try.info88
  obtain ⟨mo, hnv⟩ := h.now.shape
  obtain ⟨Z, hZ⟩ : ∃ Z, Dc.do (.rm name) f.now = Z := ⟨_, rfl⟩
  obtain ⟨sb, hd⟩ : ∃ sb, d = .func (.func 75) #[] #[.pointer (some ⟨sb, 0, none⟩)] := by
    obtain ⟨sb, e, _⟩ := hv
    exact ⟨sb, e⟩
  obtain ⟨C, hC0⟩ : ∃ C, C = Obj.cells #[.func (.func 75) #[] #[.pointer (some ⟨sb, 0, none⟩)], .int .i64 0, .bool false] 88 (0, 0) := ⟨_, rfl⟩
  have hbl := lt_of_block h.blk
  have hb0 : (w.alloc C).heap[b]? = some (.cells #[f.c0, f.c1, f.c2, f.lv, f.lo, f.nv, f.c6, f.c7] 69 (0, 0)) := (Below.heap_alloc w C b hbl).trans h.blk
  have c2 : (w.alloc C).drew.cell? ⟨b, 5, none⟩ = some f.nv := (by rw [cell_block hb0]; rfl : (w.alloc C).cell? ⟨b, 5, none⟩ = some f.nv)
  have hw0 : ∀ k, k < w.heap.size → (w.alloc C).drew.heap[k]? = w.heap[k]? := fun k hk => Below.heap_alloc w C k hk
  have hD := ddo_any (w.alloc C).drew base (.rm name) d ro mo f.now f.bn (hv.keep fun k hk => hw0 k (hv.lt k hk).2) (by rw [← hnv]; exact h.now.keep fun k hk => hw0 k (h.now.low hk).2) hok hs (by simp; omega) sb hd
  have e0 : (w.alloc C).heap[w.heap.size]? = some (.cells #[.func (.func 75) #[] #[.pointer (some ⟨sb, 0, none⟩)], .int .i64 0, .bool false] 88 (0, 0)) := (Go.heap_alloc_new w C).trans (by rw [hC0])
  have f0 : (w.alloc C).drew.cell? ⟨w.heap.size, 0, none⟩ = some (.func (.func 75) #[] #[.pointer (some ⟨sb, 0, none⟩)]) := (by rw [cell_block e0]; rfl : (w.alloc C).cell? ⟨w.heap.size, 0, none⟩ = some (.func (.func 75) #[] #[.pointer (some ⟨sb, 0, none⟩)]))
  have f1 : (w.alloc C).drew.cell? ⟨w.heap.size, 1, none⟩ = some (.int .i64 0) := (by rw [cell_block e0]; rfl : (w.alloc C).cell? ⟨w.heap.size, 1, none⟩ = some (.int .i64 0))
  have HD : Hid (Calls Try.prog 75 #[.map mo, .int .i64 0, .pointer (some ⟨sb, 0, none⟩)] (w.alloc C).drew fun e w1 => ∃ m1, e = .returned (.map m1) ∧ w1.cell? ⟨b, 5, none⟩ = some f.nv ∧ w1.frozen? ⟨b, 5, none⟩ = false ∧ ∃ f1, Mdd w (w1.setCell ⟨b, 5, none⟩ (.map m1)) base b f C Z f1) := by
    refine Calls.mono hD ?_
    rintro e w1 ⟨m1, rfl, hB, hg, hat⟩
    rw [hZ] at hB
    rw [← hnv] at hg hat
    obtain ⟨f1, hm⟩ := mdd_of h hB hg hat
    have nb := ((nod3 b (mblk f.lv) (mblk f.nv) f.lo.ownBlock).1 h.nod).2.1
    have hb1 : w1.heap[b]? = some (.cells #[f.c0, f.c1, f.c2, f.lv, f.lo, f.nv, f.c6, f.c7] 69 (0, 0)) := (hg.block b (lt_of_block hb0) (fun e => nb e.symm)).trans hb0
    exact ⟨m1, rfl, by rw [cell_block hb1]; rfl, by simp [World.frozen?, hb1], f1, hm⟩
  have HE : Hid (∀ wx f1, Mdd w wx base b f C Z f1 → wx.drew.cell? ⟨b, 4, none⟩ = some f1.lo ∧ wx.drew.frozen? ⟨b, 4, none⟩ = false ∧ wx.drew.cell? ⟨w.heap.size, 0, none⟩ = some (.func (.func 75) #[] #[.pointer (some ⟨sb, 0, none⟩)]) ∧ wx.drew.cell? ⟨w.heap.size, 1, none⟩ = some (.int .i64 0) ∧ wx.drew.cell? ⟨w.heap.size, 2, none⟩ = some (.bool false) ∧ (∃ a1 n1 k1, f1.lo = .slice a1 n1 k1) ∧ ∀ O, (wx.drew.alloc O).ownsRow base 88 3 f1.lo f1.ls.length (rowOfD f1.ls) ∧ base ≤ (wx.drew.alloc O).heap.size) := by
    intro wx f1 hm
    have q1 := hm.ft.fil.blk
    have q2 := hm.blk
    rw [hC0] at q2
    refine ⟨(by rw [cell_block q1]; rfl : wx.cell? ⟨b, 4, none⟩ = some f1.lo), (by simp [World.frozen?, q1] : wx.frozen? ⟨b, 4, none⟩ = false), (by rw [cell_block q2]; rfl : wx.cell? ⟨w.heap.size, 0, none⟩ = _), (by rw [cell_block q2]; rfl : wx.cell? ⟨w.heap.size, 1, none⟩ = _), (by rw [cell_block q2]; rfl : wx.cell? ⟨w.heap.size, 2, none⟩ = _), ?_, fun O => ⟨?_, ?_⟩⟩
    · obtain ⟨a1, k1, e⟩ := own_slice hm.ft.fil.row
      exact ⟨a1, _, k1, e⟩
    · exact own_keep hm.ft.fil.row fun k hk => Below.heap_alloc wx.drew O k (hm.ft.fil.row.lt k hk).2
    · have := hm.ft.turn.size; simp; omega
  have HG : Hid (∀ wx w3 f1 O v, Mdd w wx base b f C Z f1 → w3.ownsRow base 88 3 v (f1.ls.length + 1) (rowOfD f1.ls ++ [.func (.func 75) #[] #[.pointer (some ⟨sb, 0, none⟩)], .int .i64 0, .bool false]) → (wx.drew.alloc O).grownBy w3 f1.lo.ownBlock → (v.ownBlock = f1.lo.ownBlock ∨ v.ownBlock = some (wx.drew.alloc O).heap.size) → (∃ a1 n1 k1, v = .slice a1 n1 k1) ∧ w3.cell? ⟨b, 4, none⟩ = some f1.lo ∧ w3.frozen? ⟨b, 4, none⟩ = false ∧ ∃ f', Dt w (w3.setCell ⟨b, 4, none⟩ v) base b f f' ∧ f'.last = f.last ∧ f'.bl = f.bl ∧ f'.lv = f.lv ∧ f'.now = Z ∧ f'.bn = f.bn + 1 ∧ f'.ls = f.ls ++ [⟨.func (.func 75) #[] #[.pointer (some ⟨sb, 0, none⟩)], .rm name, ro⟩] ∧ f'.c0 = f.c0 ∧ f'.c1 = f.c1 ∧ f'.c2 = f.c2 ∧ f'.c6 = f.c6 ∧ f'.c7 = f.c7) := by
    intro wx w3 f1 O v hm hR hg hat
    have hR' : w3.ownsRow base 88 3 v (f1.ls.length + 1) (rowOfD f1.ls ++ Ld.cells ⟨d, .rm name, ro⟩) := by
      rw [← hd] at hR; exact hR
    obtain ⟨a1, k1, e⟩ := own_slice hR
    have q1 := hm.ft.fil.blk
    have nb := ((nod3 b (mblk f1.lv) (mblk f1.nv) f1.lo.ownBlock).1 hm.ft.fil.nod).2.2.1
    have q3 : w3.heap[b]? = some (.cells #[f1.c0, f1.c1, f1.c2, f1.lv, f1.lo, f1.nv, f1.c6, f1.c7] 69 (0, 0)) := (hg.block b (by have := lt_of_block q1; simp; omega) (fun e => nb e.symm)).trans ((Below.heap_alloc wx.drew O b (lt_of_block q1)).trans q1)
    exact ⟨⟨a1, _, k1, e⟩, by rw [cell_block q3]; rfl, by simp [World.frozen?, q3], by have := mde_of hm hv hap hR' hg hat; rw [hd] at this; exact this⟩
  have HLs : Hid (∀ wx f1, Mdd w wx base b f C Z f1 → f1.ls.length ≤ 1000000000) := fun wx f1 hm => by rw [hm.ls]; exact hls
  rw [hnv] at c2
  have hnv' : Hid (f.nv = .map mo) := hnv
  rw [hZ, hd]
  clear hD h hv hap hok hs hb0 hw0 e0 hnv hZ hbl hd hls
  subst hC0
  go_enter Try.func42, Try.ntmps42
  go_upto_region 1 with fail
  go_cut [] (fun wx => ∃ f1, Hid (Mdd w wx base b f (Obj.cells #[.func (.func 75) #[] #[.pointer (some ⟨sb, 0, none⟩)], .int .i64 0, .bool false] 88 (0, 0)) Z f1))
  case first =>
    go_region_with (first | (go_at_call 75; refine HD.out.mono ?_; rintro e w1 ⟨m1, rfl, x0, x1, hm⟩; rw [hnv'.out] at x0; have HM : Hid (∃ f1, Mdd w (w1.setCell ⟨b, 5, none⟩ (.map m1)) base b f (Obj.cells #[.func (.func 75) #[] #[.pointer (some ⟨sb, 0, none⟩)], .int .i64 0, .bool false] 88 (0, 0)) Z f1) := hm; clear hm))
    all_goals
      go_wp2_with fail
      go_meet
      case rel => obtain ⟨f1, hm⟩ := HM.out; exact ⟨f1, hm⟩
  case rest =>
    obtain ⟨f1', HM⟩ := hcut
    obtain ⟨y1, y2, y3, y4, y5, ⟨a1, n1, k1, hlo⟩, hO⟩ := HE.out _ _ HM.out
    have HLo : Hid (f1'.lo = .slice a1 n1 k1) := hlo
    rw [hlo] at y1
    have hLL := HLs.out _ _ HM.out
    have HLL : Hid (f1'.ls.length + 1 ≤ maxLen ∧ (f1'.ls.length + 1) * 24 ≤ 140737488355328) := ⟨by unfold maxLen; omega, by omega⟩
    have HOw : Hid ((wc.drew.alloc (Obj.cells #[.func (.func 75) #[] #[.pointer (some ⟨sb, 0, none⟩)], .int .i64 0, .bool false] 88 (0, 0))).ownsRow base 88 3 (.slice a1 n1 k1) f1'.ls.length (rowOfD f1'.ls)) := (by rw [← hlo]; exact (hO _).1 : (wc.drew.alloc (Obj.cells #[.func (.func 75) #[] #[.pointer (some ⟨sb, 0, none⟩)], .int .i64 0, .bool false] 88 (0, 0))).ownsRow base 88 3 (.slice a1 n1 k1) f1'.ls.length (rowOfD f1'.ls))
    have HOb : Hid (base ≤ (wc.drew.alloc (Obj.cells #[.func (.func 75) #[] #[.pointer (some ⟨sb, 0, none⟩)], .int .i64 0, .bool false] 88 (0, 0))).heap.size) := (hO _).2
    have y1' : (wc.drew.alloc (Obj.cells #[.func (.func 75) #[] #[.pointer (some ⟨sb, 0, none⟩)], .int .i64 0, .bool false] 88 (0, 0))).cell? ⟨b, 4, none⟩ = some (.slice a1 n1 k1) := cell_of_below ((Below.refl _ _).alloc (Nat.le_refl _) _) y1
    have y1'' : (wc.alloc (Obj.cells #[.func (.func 75) #[] #[.pointer (some ⟨sb, 0, none⟩)], .int .i64 0, .bool false] 88 (0, 0))).drew.cell? ⟨b, 4, none⟩ = some (.slice a1 n1 k1) := y1'
    have HNw : Hid (∀ j u, ([.func (.func 75) #[] #[.pointer (some ⟨sb, 0, none⟩)], .int .i64 0, .bool false] : List Value)[j]? = some u → (wc.drew.alloc (Obj.cells #[.func (.func 75) #[] #[.pointer (some ⟨sb, 0, none⟩)], .int .i64 0, .bool false] 88 (0, 0))).cell? ((⟨wc.heap.size, 0, none⟩ : Addr).add j) = some u) := by
      intro j u hj
      have e : (wc.drew.alloc (Obj.cells #[.func (.func 75) #[] #[.pointer (some ⟨sb, 0, none⟩)], .int .i64 0, .bool false] 88 (0, 0))).heap[wc.heap.size]? = some (Obj.cells #[.func (.func 75) #[] #[.pointer (some ⟨sb, 0, none⟩)], .int .i64 0, .bool false] 88 (0, 0)) := Go.heap_alloc_new wc.drew _
      rw [Go.WideShapes.add_plain, cell_block e]
      simpa using hj
    have HOn : Hid (∀ u ∈ ([.func (.func 75) #[] #[.pointer (some ⟨sb, 0, none⟩)], .int .i64 0, .bool false] : List Value), u.oneCell' = true) := by
      intro u hu
      simp at hu
      rcases hu with rfl | rfl | rfl <;> rfl
    clear hO hlo hLL
    go_wp2_with fail
    go_region_law (refine step_append_at rfl (.tmp 20) (.tmp 22) 63 rfl base 88 i0 (.agg #[.nilFunc, .int .i64 0, .bool false]) 3 24 Try.underlying63 i0i hz0 hz1 hz2 rfl (by decide) (.slice a1 n1 k1) f1'.ls.length (rowOfD f1'.ls) rfl HOw.out ⟨wc.heap.size, 0, none⟩ 1 1 [.func (.func 75) #[] #[.pointer (some ⟨sb, 0, none⟩)], .int .i64 0, .bool false] rfl rfl HNw.out HOn.out HLL.out.1 HLL.out.2 HOb.out ?_; intro v3 w3 hR hg hat; rw [← HLo.out] at hg hat; obtain ⟨⟨a3, n3, k3, hv3⟩, s1, s2, hf⟩ := HG.out wc w3 f1' _ v3 HM.out hR hg hat; subst hv3; rw [HLo.out] at s1; have HF : Hid (∃ f', Dt w (w3.setCell ⟨b, 4, none⟩ (.slice a3 n3 k3)) base b f f' ∧ f'.last = f.last ∧ f'.bl = f.bl ∧ f'.lv = f.lv ∧ f'.now = Z ∧ f'.bn = f.bn + 1 ∧ f'.ls = f.ls ++ [⟨.func (.func 75) #[] #[.pointer (some ⟨sb, 0, none⟩)], .rm name, ro⟩] ∧ f'.c0 = f.c0 ∧ f'.c1 = f.c1 ∧ f'.c2 = f.c2 ∧ f'.c6 = f.c6 ∧ f'.c7 = f.c7) := hf; clear hR hg hat hf)
    all_goals
      go_wp2_with fail
      go_end0
      exact ⟨rfl, HF.out⟩
end Go.Proofs.Ytkmohpdcchpndaa
