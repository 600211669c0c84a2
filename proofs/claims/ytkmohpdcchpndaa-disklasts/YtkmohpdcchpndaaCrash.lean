/-
  The power of a disk fails.
-/
import Derived.Test.YtkmohpdcchpndaaFace
namespace Go.Proofs.Ytkmohpdcchpndaa
open Go.RowKit Go.Maps
set_option linter.unusedVariables false
set_option linter.unusedSimpArgs false
set_option maxRecDepth 100000
theorem dm_get {w : World} {base : Nat} {mo : Option Nat} {od : Option (DataW Unit)} {n : Nat} (h : Dm w base (.map mo) od n) (nm : ByteArray) (hs : nm.size ≤ maxLen) (num : Int) (hh : Has1 od nm num) :
    (Instr.lookup 62 (.map mo) (.string nm) false).run Try.prog w = .ok (.int .i64 num) w := by
  have hkey := Go.WideMaps.keyOf_string_mk (P := Try.prog) Try.underlying9 hs
  rcases h with ⟨e, rfl⟩ | ⟨m, D, e, rfl, _, ⟨es, clock, hb, F, _, hD⟩, _⟩
  · obtain ⟨D, e2, _⟩ := hh; cases e2
  · cases e
    obtain ⟨D', e2, hat'⟩ := hh
    cases e2
    rcases Maps.fit_look false (Go.Maps.string_keyed Try.underlying9) Try.underlying62 (zero3 w) hb F hkey with ⟨hrun, _, hat⟩ | ⟨e0, y, _, _, hrun, hRv, hat, _⟩
    · exact (lit_not_all (num := num) fun z => by rw [← hat' z, hD]; exact (hat z).symm).elim
    · obtain ⟨c, hv, hy, hwc⟩ := plainElem_int_inv Try.underlying3 hRv
      rw [hv] at hrun
      have e3 := hat' .nil
      rw [hD, hat .nil, hy] at e3
      simp at e3
      rw [← e3]
      exact hrun
theorem names_size {w : World} {base : Nat} {mv : Value} {od : Option (DataW Unit)} {n : Nat} (h : Dm w base mv od n) {nm : ByteArray} (hm : nm ∈ namesL od) : nm.size ≤ maxLen := by
  rcases h with ⟨_, rfl⟩ | ⟨m, D, e, rfl, _, hown, _⟩
  · simp [namesL] at hm
  · simp only [namesL, Option.elim_some, List.mem_map, List.mem_mergeSort] at hm
    obtain ⟨l, hl, rfl⟩ := hm
    have := strKeys_le hown Try.underlying9 l hl
    show l.toArray.size ≤ maxLen
    simpa using this
theorem names_length {w : World} {base : Nat} {mv : Value} {od : Option (DataW Unit)} {n : Nat} (h : Dm w base mv od n) : (namesL od).length = od.elim 0 Go.Maps.size := by
  rcases h with ⟨_, rfl⟩ | ⟨m, D, e, rfl, _, hown, _⟩
  · rfl
  · obtain ⟨es, rfl, _⟩ := hown.keysOf
    simp [namesL, strKeys, Go.Maps.size]
/-- where the loop over the files stands -/
structure Lp (w wr : World) (base d : Nat) (x x' : Dr) (am : Option Am) (fo' : Option (DataW Unit)) (nf' made : Nat) (es es0 es' : List En) (lab' : Nat → Nat) (nb cb i0 i : Nat) (cs : List Int) (gl : List Nat) (ns : List ByteArray) (k : Nat) (v : Value) : Prop where
  cb_ : Cb wr base d x' am fo' nf' made es' lab' nb cb i cs gl
  kt : KtN nb w wr d x am es x' am es'
  seq : FailSeq x'.now cs (ns.take k) es0 i0 es' i
  le : i ≤ cs.length
  few : ∀ e ∈ es', e.f.ls.length ≤ 1000000000
  row : wr.ownsRow w.heap.size 9 1 v ns.length (ns.map Value.string)
  rl : ∀ j, v.ownBlock = some j → lab' j = 3
  nms : ns = namesL x'.now
theorem Lp.step {w wr : World} {base d : Nat} {x x' : Dr} {am : Option Am} {fo' : Option (DataW Unit)} {nf' made : Nat} {es es0 es' : List En} {lab' : Nat → Nat} {nb cb i0 i : Nat} {cs : List Int} {gl : List Nat} {ns : List ByteArray} {k : Nat} {v : Value} (h : Lp w wr base d x x' am fo' nf' made es es0 es' lab' nb cb i0 i cs gl ns k v) (hk : k < ns.length) (hmade : made ≤ 1000000000) (hbase : base ≤ w.heap.size) :
    ∃ nm fb mo mf M, ns[k]? = some nm ∧ x'.nv = .map mo ∧ x'.c6 = .map mf ∧ wr.cell? ⟨d, 5, none⟩ = some (.map mo) ∧ wr.cell? ⟨d, 6, none⟩ = some (.map mf) ∧ (∀ q, (Instr.lookup 62 (.map mo) (.string nm) false).run Try.prog (wr.drewN q) = .ok (.int .i64 M) (wr.drewN q)) ∧ (∀ q, (Instr.lookup 67 (.map mf) (.int .i64 M) false).run Try.prog (wr.drewN q) = .ok (.pointer (some ⟨fb, 0, none⟩)) (wr.drewN q)) ∧
      ∀ q, Calls Try.prog 41 #[.pointer (some ⟨fb, 0, none⟩), .func (.func 62) #[] #[.pointer (some ⟨nb, 0, none⟩), .pointer (some ⟨cb, 0, none⟩)], .func (.func 37) #[] #[]] (wr.drewN q) fun e w' => e = .returned (.tuple #[]) ∧ ∃ es'' lab'' i', Lp w w' base d x x' am fo' nf' made es es0 es'' lab'' nb cb i0 i' cs gl ns (k + 1) v := by
  obtain ⟨nm, hnm⟩ : ∃ nm, ns[k]? = some nm := ⟨ns[k], List.getElem?_eq_getElem hk⟩
  have hmem : nm ∈ namesL x'.now := h.nms ▸ List.mem_of_getElem? hnm
  have hs := names_size h.cb_.dk.dir.now hmem
  obtain ⟨num, hh⟩ := names_mem h.cb_.dk.dir.now hmem
  obtain ⟨e, he, hnum⟩ := h.cb_.dk.named nm num hh
  subst hnum
  obtain ⟨hat, hle⟩ := h.cb_.dk.at_ e he
  obtain ⟨mo, hmo⟩ := h.cb_.dk.dir.now.shape
  obtain ⟨mf, hmf⟩ := h.cb_.dk.fm.shape
  have hblk := h.cb_.dk.dir.blk
  rw [hmo, hmf] at hblk
  have hnow := h.cb_.dk.dir.now
  rw [hmo] at hnow
  have hfm := h.cb_.dk.fm
  rw [hmf] at hfm
  have hfew := h.cb_.ch.few
  have hwr : base ≤ wr.heap.size := Nat.le_trans hbase h.kt.size
  refine ⟨nm, e.b, mo, mf, (e.num : Int), hnm, hmo, hmf, by rw [cell_block hblk]; rfl, by rw [cell_block hblk]; rfl, fun q => dm_get (hnow.keep (w' := wr.drewN q) fun _ _ => rfl) nm hs _ hh, fun q => fm_look (hfm.keep (w' := wr.drewN q) fun _ _ => rfl) e.num e.b (by omega) hat, fun q => ?_⟩
  have hq := below_drewN (Below.refl wr.heap.size wr) q
  have h2 := h.cb_.keepBelow hq
  refine (fail_any (wr.drewN q) base e.b nb cb e.f i cs gl (h2.fc2 he) (h2.dk.rp e he) (h.few e he) (by have := h.le; omega) hwr).mono ?_
  rintro ex w' ⟨rfl, g, i', ov, hl, e1, e2⟩
  obtain ⟨c3, kt3⟩ := h2.file he ov hl e1 e2
  refine ⟨rfl, _, _, i', c3, h.kt.trans ((Kt.below hq d x' am es').toN.trans kt3), ?_, hl.le h.le, fun y hy => ?_, own_keep h.row fun j hj => ?_, fun j hj => ?_, h.nms⟩
  · have := h.seq.snoc he hh hl e1 e2
    rwa [List.take_add_one, hnm]
  · rcases mem_setf hy with ⟨z, hz, _, rfl⟩ | ⟨hy, _⟩
    · rw [e2]; simp
    · exact h.few y hy
  · have hj3 := h.rl j hj
    have hlt := (h.row.lt j hj).2
    refine (ov.turn.block j hlt fun hm => ?_)
    rcases List.mem_cons.1 hm with hm | hm
    · have := h.cb_.ln
      rw [← hm] at this; omega
    · have := h.cb_.dk.l4 e he j hm
      omega
  · have hlt := (h.row.lt j hj).2
    have hj3 := h.rl j hj
    rw [relab_old (by exact hlt), relab_old hlt]
    exact hj3
/-- behind a failure of the power -/
structure Crashed (w w' : World) (base d : Nat) (x : Dr) (am : Option Am) (es : List En) (made : Nat) (cs : List Int) (x' : Dr) (D' : DataW Unit) (nf' : Nat) (es' : List En) (lab' : Nat → Nat) (i1 i2 : Nat) : Prop where
  dk : Dk w' base d x' none (some D') nf' made es' lab'
  kt : Kt w w' d x am es x' none es'
  c0 : x'.c0 = x.c0
  c1 : x'.c1 = .bool true
  ls : x'.ls = []
  now : x'.now = x'.last
  bn : x'.bn = x'.bl
  bl : x'.bl ≤ x.bl + x.ls.length
  nf : nf' ≤ x'.now.elim 0 Go.Maps.size
  dir : DLasts x cs 0 x'.last i1
  fil : FailSeq x'.now cs (namesL x'.now) (namedOf es x'.now) i1 es' i2
set_option maxHeartbeats 4000000 in
theorem crash_any (w : World) (base d : Nat) (x : Dr) (am : Option Am) (fo : Option (DataW Unit)) (nf made : Nat) (es : List En) (lab : Nat → Nat) (h : Dk w base d x am fo nf made es lab) (hup : x.c1 = .bool false) (a : Option Addr) (n cap : Nat) (cs : List Int) (gl : List Nat) (hl : cs.length = n) (hN : Nrs w a cs gl) (hgl : ∀ k ∈ gl, lab k = 3 ∧ k < w.heap.size) (hr : ∀ c ∈ cs, -9223372036854775808 ≤ c ∧ c ≤ 9223372036854775807) (hf : cs.length ≤ 17592186044000)
    (hls : ∀ e ∈ es, e.f.ls.length ≤ 1000000000) (hdl : x.ls.length ≤ 1000000000) (hbl : x.bl + x.ls.length < 1000000000) (hmade : made ≤ 1000000000) (hfew : ∀ z i, DLasts x cs 0 z i → z.elim 0 Go.Maps.size ≤ 1000000) (hbase : base ≤ w.heap.size) :
    Calls Try.prog 13 #[.pointer (some ⟨d, 0, none⟩), .slice a n cap] w fun e w' => e = .returned (.tuple #[]) ∧ ∃ x' D' nf' es' lab' i1 i2, Crashed w w' base d x am es made cs x' D' nf' es' lab' i1 i2 := by
  have hblk := h.dir.blk
  rw [hup] at hblk
  have h1 : w.cell? ⟨d, 1, none⟩ = some (.bool false) := by rw [cell_block hblk]; rfl
  have HC : Hid (Calls Try.prog 38 #[.slice a n cap] w fun e w1 => ∃ nb cb, e = .returned (.func (.func 62) #[] #[.pointer (some ⟨nb, 0, none⟩), .pointer (some ⟨cb, 0, none⟩)]) ∧
      Calls Try.prog 39 #[.pointer (some ⟨d, 3, none⟩), .func (.func 62) #[] #[.pointer (some ⟨nb, 0, none⟩), .pointer (some ⟨cb, 0, none⟩)], .func (.func 40) #[] #[]] w1 fun e w2 => e = .returned (.tuple #[]) ∧
      Calls Try.prog 33 #[.pointer (some ⟨d, 0, none⟩)] w2 fun e w3 => e = .returned (.tuple #[]) ∧
      Calls Try.prog 11 #[.pointer (some ⟨d, 0, none⟩)] w3 fun e w4 => ∃ aN L cN, e = .returned (.slice aN L cN) ∧ L ≤ 1000000 ∧ w.heap.size ≤ nb ∧ ∃ x' fo' nf' es0 lab' i0 ns, Hid (ns.length = L) ∧ Hid (x'.c1 = .bool false ∧ x'.c0 = x.c0 ∧ x'.ls = [] ∧ x'.now = x'.last ∧ x'.bn = x'.bl ∧ x'.bl ≤ x.bl + x.ls.length ∧ nf' ≤ x'.now.elim 0 Go.Maps.size ∧ DLasts x cs 0 x'.last i0 ∧ es0 = namedOf es x'.now ∧ ∃ D', fo' = some D') ∧ Hid (Lp w w4 base d x x' am fo' nf' made es es0 es0 lab' nb cb i0 i0 cs gl ns 0 (.slice aN L cN))) := by
    refine (chooser_any w a n cap cs gl hl hN (fun k hk => (hgl k hk).2) hr hf).mono ?_
    rintro ex w1 ⟨nb, cb, rfl, hch, hb1, n1, n2, n3, n4⟩
    obtain ⟨lab1, c1⟩ := Cb.start h hb1 hch n1 n2 n3 n4 hgl hbase
    have bs1 : base ≤ w1.heap.size := Nat.le_trans hbase hb1.size
    refine ⟨nb, cb, rfl, (dfail_any w1 base d nb cb x 0 cs gl c1.dcc h.rd hdl hbl (by omega) bs1).mono ?_⟩
    rintro ex w2 ⟨rfl, g, i1, ov, hdla, e1, e2, e3, e4, e5, e6, e7, e8, e9⟩
    obtain ⟨c2, kt2⟩ := c1.dfail ov hdla e1 e2 e7 e8 e9 (h.failed hdla e1 e2)
    have bs2 : base ≤ w2.heap.size := Nat.le_trans bs1 kt2.size
    have hfw : g.now.elim 0 Go.Maps.size ≤ 1000000 := by rw [e1]; exact hfew _ _ hdla
    refine ⟨rfl, (forget_any w2 base d g am fo nf made es _ c2.dk hmade hfw).mono ?_⟩
    rintro ex w3 ⟨rfl, mb, D', nf', F⟩
    obtain ⟨lab3, c3, kt3⟩ := c2.forget F e2 e1.symm bs2
    refine ⟨rfl, (names_any w3 base d _ c3.dk.dir (e6.trans hup) hfw).mono ?_⟩
    rintro ex w4 ⟨v, rfl, hrow, hb4⟩
    obtain ⟨aN, cN, rfl⟩ := own_slice hrow
    have hlen : (namesL g.now).length ≤ 1000000 := by rw [names_length c2.dk.dir.now]; exact hfw
    have c4 := c3.keepBelow hb4
    have hws : w.heap.size ≤ w3.heap.size := Nat.le_trans hb1.size (Nat.le_trans kt2.size kt3.size)
    refine ⟨aN, _, cN, rfl, hlen, n1, { g with c6 := .map (some mb) }, some D', nf', namedOf es g.now, _, i1, namesL g.now, rfl, ⟨e6.trans hup, e5, e2, e1, e3, e4, F.few, hdla, rfl, D', rfl⟩, ⟨c4, ((Kt.below hb1 d x am es).toN.trans (kt2.trans (kt3.toN.trans (Kt.below hb4 d _ am _).toN))), ⟨rfl, rfl⟩, ?_, ?_, own_low' hrow hws, fun j hj => ?_, rfl⟩⟩
    · obtain ⟨k, _, _, _, e⟩ := hdla
      rw [e]; unfold nxt; split <;> omega
    · exact fun e he => hls e (mem_named.1 he).1
    · exact relab_new (hrow.lt j hj).1
  clear h hN hgl hr hls hfew hblk
  go_enter Try.func13, Try.ntmps13
  go_wp2_with (first | (go_at_call 38; refine HC.out.mono ?_; rintro ex w1 ⟨nb, cb, rfl, hc⟩; have HC2 := hide2 hc; clear hc) | (go_at_call 39; refine HC2.out.mono ?_; rintro ex w2 ⟨rfl, hc⟩; have HC3 := hide2 hc; clear hc) | (go_at_call 33; refine HC3.out.mono ?_; rintro ex w3 ⟨rfl, hc⟩; have HC4 := hide2 hc; clear hc) | (go_at_call 11; refine HC4.out.mono ?_; rintro ex w4 ⟨aN, L, cN, rfl, hL6, hnb, x', fo', nf', es0, lab', i0, ns, HL, HX, HP⟩))
  clear HC HC2 HC3 HC4
  go_loopw [27] (fun t wr => ∃ (k i : Nat) (es' : List En) (lab' : Nat → Nat), k ≤ L ∧ t = .int .i64 k ∧ Hid (Lp w wr base d x x' am fo' nf' made es es0 es' lab' nb cb i0 i cs gl ns k (.slice aN L cN))) (fun t _ => L - (intOf t).toNat)
  case atStart => exact ⟨0, i0, es0, lab', by omega, rfl, HP⟩
  case round =>
    obtain ⟨k, i, es', lab1, hk, rfl, HLp⟩ := hrel
    by_cases hkL : k < L
    · obtain ⟨nm, fb, mo, mf, M, g1, g2, g3, g4, g5, g6, g7, hS⟩ := HLp.out.step (by rw [HL.out]; exact hkL) hmade hbase
      have g6d : (Instr.lookup 62 (.map mo) (.string nm) false).run Try.prog wr.drew = .ok (.int .i64 M) wr.drew := g6 1
      have g7d : (Instr.lookup 67 (.map mf) (.int .i64 M) false).run Try.prog wr.drew = .ok (.pointer (some ⟨fb, 0, none⟩)) wr.drew := g7 1
      have HS : Hid (Calls Try.prog 41 #[.pointer (some ⟨fb, 0, none⟩), .func (.func 62) #[] #[.pointer (some ⟨nb, 0, none⟩), .pointer (some ⟨cb, 0, none⟩)], .func (.func 37) #[] #[]] wr.drew fun e w' => e = .returned (.tuple #[]) ∧ ∃ es'' lab'' i', Lp w w' base d x x' am fo' nf' made es es0 es'' lab'' nb cb i0 i' cs gl ns (k + 1) (.slice aN L cN)) := hS 1
      have hrow := HLp.out.row
      obtain ⟨gN, rfl, c27⟩ : ∃ gN, aN = some ⟨gN, 0, none⟩ ∧ wr.cell? ⟨gN, k, none⟩ = some (.string nm) := by
        rcases hrow.2 with ⟨e, h0⟩ | ⟨gN, cp, cur, e, _⟩
        · rw [HL.out] at h0; omega
        · cases e
          refine ⟨gN, rfl, ?_⟩
          have := hrow.cellAt k (by rw [HL.out]; omega)
          rw [this]
          simp [g1]
      have k0 : (0 : Int) ≤ k := by omega
      have kL : (k : Int) < L := by omega
      clear g1 g2 g3 g6 g7 hrow hS HL HX HP
      go_wp2_with fail
      go_region_with (first | (go_at_call 41; refine HS.out.mono ?_; rintro ex w2 ⟨rfl, es2, lab2, i2, hL2⟩; have HL2 := hide2 hL2; clear hL2))
      all_goals
        go_wp2_with fail
        go_roundw
        case rel => exact ⟨k + 1, i2, es2, lab2, by omega, by go_num, HL2⟩
        case measure => simp [intOf]; omega
    · obtain ⟨c2v, hc2⟩ : ∃ c2v, x'.c2 = .pointer c2v := ⟨_, HLp.out.cb_.dk.c2⟩
      have hbk := HLp.out.cb_.dk.dir.blk
      have hx := HX.out
      rw [hx.1, hc2] at hbk
      have HBK := hide2 hbk
      have w1' : wr.cell? ⟨d, 1, none⟩ = some (.bool false) := by rw [cell_block hbk]; rfl
      have w2' : wr.cell? ⟨d, 2, none⟩ = some (.pointer c2v) := by rw [cell_block hbk]; rfl
      have z1' : wr.frozen? ⟨d, 1, none⟩ = false := by simp [World.frozen?, hbk]
      have z2' : wr.frozen? ⟨d, 2, none⟩ = false := by simp [World.frozen?, hbk]
      clear hbk hx hc2
      go_wp2
      go_end0
      obtain ⟨x1, x2, x3, x4, x5, x6, x7, x8, x9, D', x10⟩ := HX.out
      have hLp := HLp.out
      have hkl : k = ns.length := by rw [HL.out]; omega
      have hb1 := block_setCell HBK.out 2 (.pointer none)
      obtain ⟨kd, kt⟩ := hLp.cb_.dk.face (w' := (wr.setCell ⟨d, 2, none⟩ (.pointer none)).setCell ⟨d, 1, none⟩ (.bool true)) ((But.set 2 _).trans (But.set 1 _)) (c0 := x'.c0) (c1 := .bool true) (c2 := .pointer none) (am' := none) (by rw [block_setCell hb1 1 _]; rfl) (.inr ⟨rfl, rfl⟩)
      subst x10
      have hseq := hLp.seq
      rw [hkl, List.take_length, hLp.nms, x9] at hseq
      exact ⟨rfl, _, D', nf', es', lab1, i0, i, ⟨kd, (hLp.kt.trans kt.toN).to hnb, x2, rfl, x3, x4, x5, x6, x7, x8, hseq⟩⟩
end Go.Proofs.Ytkmohpdcchpndaa
