import Derived.Test.YtkmohpdcchpndaaBndC
/-
  A disk and what it says: synced, read, told, up, armed.
-/
namespace Go.Proofs.Ytkmohpdcchpndaa
open Go.RowKit Go.Maps
set_option linter.unusedVariables false
set_option linter.unusedSimpArgs false
set_option maxRecDepth 100000
/-- does the power fail in the next operation -/
def goesS (s : DS) : Bool := match s.arm with
  | some (0, _) => true
  | _ => false
theorem RepX.goes {w : World} {base d : Nat} {s : DS} {N : Nat} {x : Dr} {am : Option Am} {fo : Option (DataW Unit)} {nf : Nat} {es : List En} {lab : Nat → Nat} (h : RepX w base d s N x am fo nf es lab) : goesB am = goesS s := by
  have := h.arm
  unfold goesS
  cases am with
  | none =>
    have e : s.arm = none := this.symm
    rw [e]; rfl
  | some a =>
    have e : s.arm = some (a.after, a.cs) := this.symm
    rw [e]
    cases hq : a.after with
    | zero => simp [goesB, hq]
    | succ k => simp [goesB, hq]
def syncF (s : DS) (n : Nat) : DS := if goesS s then s else { s with fl := updF s.fl n ⟨(s.fl n).now, [], (s.fl n).now⟩ }
theorem sync_rep (w : World) (base d : Nat) (s : DS) (N : Nat) (own : Nat → Prop) (h : Rep w base d s N own) (hN : N < 1000000) (hup : s.down = false) (nm : ByteArray) (hnm : nmOk nm) (n : Nat) (hn : s.dn nm = some n) :
    Op 21 #[.pointer (some ⟨d, 0, none⟩), .string nm] w base d own (finS (syncF s n)) N := by
  obtain ⟨x, am, fo, nf, es, lab, hx, rfl⟩ := h
  obtain ⟨e, he, rfl⟩ := hx.ent hn
  have hb1 := hx.b1; have hb5 := hx.b5 e he
  obtain ⟨q1, q2, q3⟩ := hx.fl e he
  have hsm := (hx.fok e.num).now_small
  have hg := hx.goes
  cases hgo : goesS s with
  | true =>
    have e0 : syncF s e.num = s := by unfold syncF; rw [hgo]; rfl
    rw [e0]
    refine sync_off w base d x am fo nf s.made es lab hx.dk e he (by rw [hx.c1, hup]) nm hnm (name_short hnm) (hx.dn.has hn) (by omega) (by rw [hg, hgo]) _ ?_
    intro w1 lab' dk1 kt
    exact ans_fr (fr_of kt fun k hk => .inl (.inr hk)) (done_rep w1 base d s N x am fo nf es lab' { hx with dk := dk1, b7 := Nat.le_trans hx.b7 kt.size } hN hup)
  | false =>
    have e0 : syncF s e.num = { s with fl := updF s.fl e.num ⟨(s.fl e.num).now, [], (s.fl e.num).now⟩ } := by unfold syncF; rw [hgo]; rfl
    rw [e0]
    refine sync_ok w base d x am fo nf s.made es lab hx.dk e he (by rw [hx.c1, hup]) nm hnm (name_short hnm) (hx.dn.has hn) (by omega) (by omega) (by rw [q3]; omega) hx.b7 (by rw [hg, hgo]) _ ?_
    intro w1 f' lab' dk1 kt e1 e2 e3
    have hx1 : RepX w1 base d { s with fl := updF s.fl e.num ⟨(s.fl e.num).now, [], (s.fl e.num).now⟩ } N x am fo nf (setf es e.num f') lab' := by
      refine { hx with dk := dk1, fl := frel_setf hx.fl ⟨e1.trans q3, by rw [e3]; rfl, e2.trans q3⟩, b5 := fun y hy => ?_, fok := fok_upd hx.fok ⟨hsm, rfl⟩, b7 := Nat.le_trans hx.b7 kt.size }
      rcases mem_setf hy with ⟨z, hz, hn, rfl⟩ | ⟨hy, hn⟩
      · rw [show (⟨z.num, z.b, f'⟩ : En).f = f' from rfl, e3]; simp
      · exact hx.b5 y hy
    refine ans_fr (fr_of kt fun k hk => ?_) (done_rep w1 base d _ N x am fo nf _ lab' hx1 hN hup)
    rcases hk with hk | ⟨y, hy, c', hc', hk⟩ | ha
    · exact .inl (.inr (.inl hk))
    · rcases mem_setf hy with ⟨z, hz, hn, rfl⟩ | ⟨hy, hn⟩
      · rw [show (⟨z.num, z.b, f'⟩ : En).f = f' from rfl, e3] at hc'; cases hc'
      · exact .inl (.inr (.inr (.inl ⟨y, hy, c', hc', hk⟩)))
    · exact .inl (.inr (.inr (.inr ha)))
def syncD (s : DS) : DS := if goesS s then s else { s with dl := s.dn, dc := [] }
theorem syncdir_rep (w : World) (base d : Nat) (s : DS) (N : Nat) (own : Nat → Prop) (h : Rep w base d s N own) (hN : N < 1000000) (hup : s.down = false) :
    Op 10 #[.pointer (some ⟨d, 0, none⟩)] w base d own (finS (syncD s)) N := by
  obtain ⟨x, am, fo, nf, es, lab, hx, rfl⟩ := h
  have hb1 := hx.b1; have hb3 := hx.b3; have hb4 := hx.b4
  have hg := hx.goes
  cases hgo : goesS s with
  | true =>
    have e0 : syncD s = s := by unfold syncD; rw [hgo]; rfl
    rw [e0]
    exact syncdir_off w base d x am fo nf s.made es lab hx.dk (by rw [hx.c1, hup]) (by rw [hg, hgo]) _ (done_rep w base d s N x am fo nf es lab hx hN hup)
  | false =>
    have e0 : syncD s = { s with dl := s.dn, dc := [] } := by unfold syncD; rw [hgo]; rfl
    rw [e0]
    have hsz := dm_size hx.dk.dir.now
    refine syncdir_ok w base d x am fo nf s.made es lab hx.dk (by rw [hx.c1, hup]) (by rw [hg, hgo]) (by omega) (by omega) (by omega) (by omega) hx.b7 _ ?_
    intro w1 x' D' n lab' dk1 kt e1 e2 e3 e4 e5 e6 e7 e8
    have hx1 : RepX w1 base d { s with dl := s.dn, dc := [] } N x' am (some D') n (namedOf es x.now) lab' := by
      refine ⟨dk1, e6.trans hx.c0, e7.trans hx.c1, hx.arm, by rw [e1]; exact hx.dn, by rw [e3]; rfl, by rw [e2]; exact hx.dn, fun e he => hx.fl e (mem_named.1 he).1, hb1, by omega, by rw [e3]; simp; omega, by omega, fun e he => hx.b5 e (mem_named.1 he).1, hx.fok, hx.b6, Nat.le_trans hx.b7 kt.size⟩
    refine ans_fr (fr_of kt fun k hk => ?_) (done_rep w1 base d _ N x' am (some D') n _ lab' hx1 hN hup)
    rcases hk with ⟨c, hc, hk⟩ | ⟨y, hy, c', hc', hk⟩ | ha
    · rw [e3] at hc; cases hc
    · exact .inl (.inr (.inr (.inl ⟨y, (mem_named.1 hy).1, c', hc', hk⟩)))
    · exact .inl (.inr (.inr (.inr ha)))
theorem find_rep (w : World) (base d : Nat) (s : DS) (N : Nat) (own : Nat → Prop) (h : Rep w base d s N own) (hN : N < 1000000) (hup : s.down = false) (nm : ByteArray) (hnm : nmOk nm) (n : Nat) (hn : s.dn nm = some n) :
    ∃ fb f, Fil w base fb f ∧ FRel f (s.fl n) ∧ Calls Try.prog 30 #[.pointer (some ⟨d, 0, none⟩), .string nm] w fun e w' => e = .returned (.tuple #[.pointer (some ⟨fb, 0, none⟩), .int .i64 0]) ∧ Below w.heap.size w w' := by
  obtain ⟨x, am, fo, nf, es, lab, hx, rfl⟩ := h
  obtain ⟨e, he, rfl⟩ := hx.ent hn
  have hb1 := hx.b1
  obtain ⟨hat, hle⟩ := hx.dk.at_ e he
  exact ⟨e.b, e.f, hx.dk.fil e he, hx.fl e he, find_ok base d x nm fo nf e.num e.b w hx.dk.dir hx.dk.fm (by rw [hx.c1, hup]) hnm (name_short hnm) (hx.dn.has hn) hat (by omega)⟩
theorem read_rep (w : World) (base d : Nat) (s : DS) (N : Nat) (own : Nat → Prop) (h : Rep w base d s N own) (hN : N < 1000000) (hup : s.down = false) (nm : ByteArray) (hnm : nmOk nm) (n : Nat) (hn : s.dn nm = some n) :
    Calls Try.prog 12 #[.pointer (some ⟨d, 0, none⟩), .string nm] w fun e w' => ∃ v, e = .returned (.tuple #[v, .int .i64 0]) ∧ Buf w' w.heap.size v (s.fl n).now ∧ Below w.heap.size w w' := by
  obtain ⟨fb, f, hf, hr, hc⟩ := find_rep w base d s N own h hN hup nm hnm n hn
  obtain ⟨x, am, fo, nf, es, lab, hx, rfl⟩ := h
  have hsm := (hx.fok n).now_small
  have := read_ok _ nm base fb f w hc hf (by rw [hr.2.2]; omega)
  rw [hr.2.2] at this
  exact this
theorem read_down_rep (w : World) (base d : Nat) (s : DS) (N : Nat) (own : Nat → Prop) (h : Rep w base d s N own) (hdn : s.down = true) (nm : ByteArray) :
    Calls Try.prog 12 #[.pointer (some ⟨d, 0, none⟩), .string nm] w fun e w' => e = .returned (.tuple #[.slice none 0 0, .int .i64 32]) ∧ Below w.heap.size w w' := by
  obtain ⟨x, am, fo, nf, es, lab, hx, rfl⟩ := h
  have hb := hx.dk.dir.blk
  rw [hx.c1, hdn] at hb
  exact read_bad _ nm 32 w (find_down d nm w (by rw [cell_block hb]; rfl)) rfl
theorem loose_rep (w : World) (base d : Nat) (s : DS) (N : Nat) (own : Nat → Prop) (h : Rep w base d s N own) (hN : N < 1000000) (hup : s.down = false) (nm : ByteArray) (hnm : nmOk nm) (n : Nat) (hn : s.dn nm = some n) :
    Ans 9 #[.pointer (some ⟨d, 0, none⟩), .string nm] w fun v w' => v = (s.fl n).chg.length ∧ Below w.heap.size w w' := by
  obtain ⟨fb, f, hf, hr, hc⟩ := find_rep w base d s N own h hN hup nm hnm n hn
  have := loose_ok _ nm base fb f w hnm.1 hc hf
  refine this.mono fun v w' ⟨hv, hb⟩ => ⟨?_, hb⟩
  rw [hv, ← hr.2.1]; simp
theorem up_rep (w : World) (base d : Nat) (s : DS) (N : Nat) (own : Nat → Prop) (h : Rep w base d s N own) :
    Calls Try.prog 16 #[.pointer (some ⟨d, 0, none⟩)] w fun e w' => e = .returned (.tuple #[]) ∧ ∃ own', Rep w' base d { s with down := false } N own' ∧ Fr w w' own own' := by
  obtain ⟨x, am, fo, nf, es, lab, hx, rfl⟩ := h
  have hb := hx.dk.dir.blk
  have hb' := hb
  rw [hx.c1] at hb'
  refine (up_any d s.down w (by rw [cell_block hb']; rfl) (by simp [World.frozen?, hb'])).mono ?_
  rintro e w' ⟨rfl, rfl⟩
  obtain ⟨kd, kt⟩ := hx.dk.face (w' := w.setCell ⟨d, 1, none⟩ (.bool false)) (But.set 1 _) (c0 := x.c0) (c1 := .bool false) (c2 := x.c2) (am' := am) (by rw [block_setCell hb 1 _]; rfl) (.inl ⟨rfl, rfl⟩)
  exact ⟨rfl, _, ⟨_, am, fo, nf, es, lab, { hx with dk := kd, c1 := rfl, b7 := Nat.le_trans hx.b7 kt.size }, rfl⟩, fr_of kt fun k hk => .inl (.inr hk)⟩
theorem down_rep (w : World) (base d : Nat) (s : DS) (N : Nat) (own : Nat → Prop) (h : Rep w base d s N own) :
    Calls Try.prog 15 #[.pointer (some ⟨d, 0, none⟩)] w fun e w' => e = .returned (.bool s.down) ∧ w' = w := by
  obtain ⟨x, am, fo, nf, es, lab, hx, rfl⟩ := h
  have hb := hx.dk.dir.blk
  rw [hx.c1] at hb
  exact down_any d s.down w (by rw [cell_block hb]; rfl)
theorem arm_rep (w : World) (base d : Nat) (s : DS) (N : Nat) (own : Nat → Prop) (h : Rep w base d s N own) (hup : s.down = false) (aft : Int) (haf : aft ≤ 9223372036854775807) (a : Option Addr) (n cap : Nat) (cs : List Int) (hc : Chs w own a n cap cs) :
    Calls Try.prog 25 #[.pointer (some ⟨d, 0, none⟩), .int .i64 aft, .slice a n cap] w fun e w' => e = .returned (.tuple #[]) ∧ ∃ own', Rep w' base d { s with arm := some (aft.toNat, cs) } N own' ∧ Fr w w' own own' := by
  obtain ⟨x, am, fo, nf, es, lab, hx, rfl⟩ := h
  obtain ⟨gl, hN1, hgl⟩ := hc.nrs
  refine (arm_any w base d x am fo nf s.made es lab hx.dk (by rw [hx.c1, hup]) aft haf a n cap cs gl hc.len hc.bare hN1 hc.rng hc.few hx.b7).mono ?_
  rintro e w' ⟨rfl, a', lab', x', e1, e2, hgn, dk1, kt, c2, rfl⟩
  refine ⟨rfl, _, ⟨_, some a', fo, nf, es, lab', { hx with dk := dk1, arm := by show some (a'.after, a'.cs) = _; rw [e1, e2], b7 := Nat.le_trans hx.b7 kt.size }, rfl⟩, fr_of kt fun k hk => ?_⟩
  rcases hk with hk | hk | ⟨a2, ha2, hk⟩
  · exact .inl (.inr (.inl hk))
  · exact .inl (.inr (.inr (.inl hk)))
  · cases ha2
    exact .inr (hgn k hk)
theorem create_arg_rep (w : World) (base d : Nat) (s : DS) (N : Nat) (own : Nat → Prop) (h : Rep w base d s N own) (hup : s.down = false) (nm : ByteArray) (hnm : ¬ nmOk nm) (hs : nm.size ≤ maxLen) : Ans 18 #[.pointer (some ⟨d, 0, none⟩), .string nm] w fun v w' => v = 2 ∧ Below w.heap.size w w' := by
  obtain ⟨x, am, fo, nf, es, lab, hx, rfl⟩ := h
  exact create_arg w base d x hx.dk.dir (by rw [hx.c1, hup]) nm hnm hs
theorem write_full_rep (w : World) (base d : Nat) (s : DS) (N : Nat) (own : Nat → Prop) (h : Rep w base d s N own) (hN : N < 1000000) (hup : s.down = false) (nm : ByteArray) (hnm : nmOk nm) (n : Nat) (hn : s.dn nm = some n) (at_ : Nat) (hat : at_ ≤ (s.fl n).now.length) (ai : Option Addr) (m cp : Nat) (p : List Int) (hl : p.length = m) (hb : ai = none → cp = 0) (hp : Has w ai p) (ho : Octets p) (hlen : at_ + m ≤ 1048576) (hgr : (s.fl n).now.length < at_ + m) (hroom : s.room < usedS s + (at_ + m - (s.fl n).now.length)) :
    Ans 19 #[.pointer (some ⟨d, 0, none⟩), .string nm, .int .i64 at_, .slice ai m cp] w fun v w' => v = 31 ∧ Below w.heap.size w w' := by
  obtain ⟨x, am, fo, nf, es, lab, hx, rfl⟩ := h
  obtain ⟨e, he, rfl⟩ := hx.ent hn
  have hb1 := hx.b1; have hb5 := hx.b5 e he; have hb6 := hx.b6
  obtain ⟨q1, q2, q3⟩ := hx.fl e he
  have hsm := (hx.fok e.num).now_small
  have hu := hx.used
  have hul := hx.used_le
  have hmx : N * 1048576 ≤ 1048576000000 := by omega
  exact write_full w base d x am fo nf s.made es lab hx.dk e he (by rw [hx.c1, hup]) s.room hx.c0 nm hnm (name_short hnm) (hx.dn.has hn) (by omega) at_ (by rw [q3]; exact hat) ai m cp p hl hb hp ho (by omega) (by omega) (by rw [q3]; omega) (by rw [hu]; omega) (by rw [q3]; exact hgr) (by rw [hu, q3]; exact hroom) hb6 hx.b7
end Go.Proofs.Ytkmohpdcchpndaa

/-
  A disk with one file.
-/
namespace Go.Proofs.Ytkmohpdcchpndaa
open Go.RowKit Go.Maps
set_option linter.unusedVariables false
set_option linter.unusedSimpArgs false
set_option maxRecDepth 100000
open Classical in
/-- a disk that has one file, of that name, nothing lies in wait; sd: its directory is synced -/
structure One (s : DS) (nm : ByteArray) (room : Nat) (m : FM) (sd : Prop) : Prop where
  up : s.down = false
  arm : s.arm = none
  dn : ∀ a, s.dn a = if a = nm then some 1 else none
  fl : s.fl 1 = m
  room_ : s.room = room
  syn : sd → s.dl = s.dn ∧ s.dc = []
  made1 : s.made = 1
theorem One.has {s : DS} {nm : ByteArray} {room : Nat} {m : FM} {sd : Prop} (h : One s nm room m sd) : s.dn nm = some 1 := by rw [h.dn]; simp
theorem One.names {s : DS} {nm : ByteArray} {room : Nat} {m : FM} {sd : Prop} (h : One s nm room m sd) : namesOf s.dn = [nm] := by
  refine namesOf_eq ⟨by simp, List.pairwise_singleton _ _, fun a => ?_⟩
  rw [h.dn]
  simp
theorem One.used {s : DS} {nm : ByteArray} {room : Nat} {m : FM} {sd : Prop} (h : One s nm room m sd) : usedS s = m.now.length := by
  unfold usedS
  rw [h.names]
  simp [szM, h.has, h.fl]
theorem One.fin {s : DS} {nm : ByteArray} {room : Nat} {m : FM} {sd : Prop} (h : One s nm room m sd) : finS s = (0, s) := finS_none h.arm
theorem One.goes {s : DS} {nm : ByteArray} {room : Nat} {m : FM} {sd : Prop} (h : One s nm room m sd) : goesS s = false := by unfold goesS; rw [h.arm]
theorem One.new (nm : ByteArray) (room : Nat) : One (createS (newS room) nm) nm room ⟨[], [], []⟩ False := by
  refine ⟨rfl, rfl, fun a => ?_, ?_, rfl, fun h => h.elim, rfl⟩
  · rfl
  · exact updF_same (newS room).fl 1 ⟨[], [], []⟩
theorem One.chg {s : DS} {nm : ByteArray} {room : Nat} {m : FM} {sd : Prop} (h : One s nm room m sd) (c : Fc) : One (chgS s 1 c) nm room ⟨m.last, m.chg ++ [c], c.do m.now c.size⟩ sd :=
  ⟨h.up, h.arm, h.dn, (updF_same s.fl 1 ⟨(s.fl 1).last, (s.fl 1).chg ++ [c], c.do (s.fl 1).now c.size⟩).trans (by rw [h.fl]), h.room_, h.syn, h.made1⟩
theorem One.sync {s : DS} {nm : ByteArray} {room : Nat} {m : FM} {sd : Prop} (h : One s nm room m sd) : One (syncF s 1) nm room ⟨m.now, [], m.now⟩ sd := by
  have e : syncF s 1 = { s with fl := updF s.fl 1 ⟨(s.fl 1).now, [], (s.fl 1).now⟩ } := by unfold syncF; rw [h.goes]; rfl
  rw [e]
  exact ⟨h.up, h.arm, h.dn, (updF_same s.fl 1 ⟨(s.fl 1).now, [], (s.fl 1).now⟩).trans (by rw [h.fl]), h.room_, h.syn, h.made1⟩
theorem One.syncD {s : DS} {nm : ByteArray} {room : Nat} {m : FM} {sd : Prop} (h : One s nm room m sd) : One (Ytkmohpdcchpndaa.syncD s) nm room m True := by
  have e : Ytkmohpdcchpndaa.syncD s = { s with dl := s.dn, dc := [] } := by unfold Ytkmohpdcchpndaa.syncD; rw [h.goes]; rfl
  rw [e]
  exact ⟨h.up, h.arm, h.dn, h.fl, h.room_, fun _ => ⟨rfl, rfl⟩, h.made1⟩
theorem One.crash {s : DS} {nm : ByteArray} {room : Nat} {m : FM} (h : One s nm room m True) (cs : List Int) : (crashS s cs).down = true ∧ One { crashS s cs with down := false } nm room ⟨(lastF m cs (nxt cs 0)).1, [], (lastF m cs (nxt cs 0)).1⟩ True := by
  obtain ⟨h1, h2⟩ := h.syn trivial
  have hg : dirAll s.dl (s.dc.take (chosen cs 0 s.dc.length).toNat) = s.dn := by rw [h2, h1, List.take_nil]; rfl
  refine ⟨rfl, rfl, rfl, fun a => ?_, ?_, h.room_, fun _ => ⟨rfl, rfl⟩, h.made1⟩
  · show dirAll s.dl (s.dc.take (chosen cs 0 s.dc.length).toNat) a = _
    rw [hg]; exact h.dn a
  · show (failF (dirAll s.dl (s.dc.take (chosen cs 0 s.dc.length).toNat)) cs (namesOf (dirAll s.dl (s.dc.take (chosen cs 0 s.dc.length).toNat))) s.fl (nxt cs 0)).1 1 = _
    rw [hg, h.names]
    unfold failF
    rw [h.has]
    simp only [failF]
    rw [updF_same, h.fl]
/-- .. in memory -/
def OneR (w : World) (base d : Nat) (nm : ByteArray) (room : Nat) (m : FM) (sd : Prop) (N : Nat) (own : Nat → Prop) : Prop := ∃ s, Rep w base d s N own ∧ One s nm room m sd
theorem OneR.keep {w w' : World} {base d : Nat} {nm : ByteArray} {room : Nat} {m : FM} {sd : Prop} {N : Nat} {own : Nat → Prop} (h : OneR w base d nm room m sd N own) (hs : w.heap.size ≤ w'.heap.size) (hb : ∀ k, k < w.heap.size → own k → w'.heap[k]? = w.heap[k]?) : OneR w' base d nm room m sd N own := by
  obtain ⟨s, h1, h2⟩ := h
  exact ⟨s, h1.keep hs hb, h2⟩
theorem OneR.below {w w' : World} {base d : Nat} {nm : ByteArray} {room : Nat} {m : FM} {sd : Prop} {N : Nat} {own : Nat → Prop} (h : OneR w base d nm room m sd N own) (hb : Below w.heap.size w w') : OneR w' base d nm room m sd N own := h.keep hb.size fun k hk _ => hb.block k hk
theorem OneR.lt {w : World} {base d : Nat} {nm : ByteArray} {room : Nat} {m : FM} {sd : Prop} {N : Nat} {own : Nat → Prop} (h : OneR w base d nm room m sd N own) {k : Nat} (hk : own k) : k < w.heap.size := by
  obtain ⟨s, h1, h2⟩ := h
  exact h1.lt hk
theorem OneR.small {w : World} {base d : Nat} {nm : ByteArray} {room : Nat} {m : FM} {sd : Prop} {N : Nat} {own : Nat → Prop} (h : OneR w base d nm room m sd N own) : FOk m := by
  obtain ⟨s, ⟨x, am, fo, nf, es, lab, hx, _⟩, h2⟩ := h
  exact h2.fl ▸ hx.fok 1
theorem one_new (room : Nat) (w : World) (hr : room ≤ 9223372036854775807) (nm : ByteArray) (hnm : nmOk nm) :
    Calls Try.prog 17 #[.int .i64 room] w fun e w1 => e = .returned (.pointer (some ⟨w.heap.size, 0, none⟩)) ∧ Below w.heap.size w w1 ∧ Ans 18 #[.pointer (some ⟨w.heap.size, 0, none⟩), .string nm] w1 fun v w' => v = 0 ∧ ∃ own, OneR w' w.heap.size w.heap.size nm room ⟨[], [], []⟩ False 1 own ∧ Below w.heap.size w w' ∧ ∀ k, own k → w.heap.size ≤ k := by
  refine (new_rep room w (by omega)).mono ?_
  rintro e w1 ⟨rfl, own, hR, hb, hlow⟩
  refine ⟨rfl, hb, ?_⟩
  rw [show ((room : Int).toNat) = room by omega] at hR
  refine (create_rep w1 w.heap.size w.heap.size _ 0 own hR (by omega) rfl nm hnm rfl ⟨[], fun a k e => (by cases e), by simp⟩).mono ?_
  rintro v w' ⟨rfl, own', hR', hf⟩
  have ho := One.new nm room
  rw [ho.fin] at hR' ⊢
  have hl : ∀ k, own' k → w.heap.size ≤ k := fun k hk => (hf.sub k hk).elim (hlow k) (fun h' => Nat.le_trans hb.size h')
  refine ⟨rfl, own', ⟨_, hR', ho⟩, ⟨hf.os.trans hb.os, hf.tape.trans hb.tape, hf.output.trans hb.output, Nat.le_trans hb.size hf.size, fun k hk => (hf.block k (Nat.lt_of_lt_of_le hk hb.size) fun h' => by have := hlow k h'; omega).trans (hb.block k hk)⟩, hl⟩
theorem one_write {w : World} {base d : Nat} {nm : ByteArray} {room : Nat} {m : FM} {sd : Prop} {N : Nat} {own : Nat → Prop} (h : OneR w base d nm room m sd N own) (hN : N + 1 < 1000000) (hnm : nmOk nm) (at_ : Nat) (hat : at_ ≤ m.now.length) (ai : Option Addr) (k cp : Nat) (p : List Int) (hl : p.length = k) (hb : ai = none → cp = 0) (hp : Has w ai p) (ho : Octets p) (hlen : at_ + k ≤ 1048576) (hroom : at_ + k ≤ room) :
    Ans 19 #[.pointer (some ⟨d, 0, none⟩), .string nm, .int .i64 at_, .slice ai k cp] w fun v w' => v = 0 ∧ ∃ own', OneR w' base d nm room ⟨m.last, m.chg ++ [.wr at_ p], over m.now at_ p⟩ sd (N + 1) own' ∧ Fr w w' own own' := by
  obtain ⟨s, hR, hO⟩ := h
  refine (write_rep w base d s N own hR hN hO.up nm hnm 1 hO.has at_ (by rw [hO.fl]; exact hat) ai k cp p hl hb hp ho hlen (fun hg => by rw [hO.used, hO.fl, hO.room_]; rw [hO.fl] at hg; omega)).mono ?_
  rintro v w' ⟨rfl, own', hR', hf⟩
  have ho := hO.chg (.wr at_ p)
  rw [ho.fin] at hR' ⊢
  have e : (Fc.wr at_ p).do m.now (Fc.wr at_ p).size = over m.now at_ p := by
    show over m.now at_ (p.take p.length) = _
    rw [List.take_length]
  rw [e] at ho
  exact ⟨rfl, own', ⟨_, hR', ho⟩, hf⟩
theorem one_cut {w : World} {base d : Nat} {nm : ByteArray} {room : Nat} {m : FM} {sd : Prop} {N : Nat} {own : Nat → Prop} (h : OneR w base d nm room m sd N own) (hN : N + 1 < 1000000) (hnm : nmOk nm) (k : Nat) (hk : k ≤ m.now.length) :
    Ans 22 #[.pointer (some ⟨d, 0, none⟩), .string nm, .int .i64 k] w fun v w' => v = 0 ∧ ∃ own', OneR w' base d nm room ⟨m.last, m.chg ++ [.ct k], m.now.take k⟩ sd (N + 1) own' ∧ Fr w w' own own' := by
  obtain ⟨s, hR, hO⟩ := h
  refine (cut_rep w base d s N own hR hN hO.up nm hnm 1 hO.has k (by rw [hO.fl]; exact hk)).mono ?_
  rintro v w' ⟨rfl, own', hR', hf⟩
  have ho := hO.chg (.ct k)
  rw [ho.fin] at hR' ⊢
  exact ⟨rfl, own', ⟨_, hR', ho⟩, hf⟩
theorem one_sync {w : World} {base d : Nat} {nm : ByteArray} {room : Nat} {m : FM} {sd : Prop} {N : Nat} {own : Nat → Prop} (h : OneR w base d nm room m sd N own) (hN : N < 1000000) (hnm : nmOk nm) :
    Ans 21 #[.pointer (some ⟨d, 0, none⟩), .string nm] w fun v w' => v = 0 ∧ ∃ own', OneR w' base d nm room ⟨m.now, [], m.now⟩ sd N own' ∧ Fr w w' own own' := by
  obtain ⟨s, hR, hO⟩ := h
  refine (sync_rep w base d s N own hR hN hO.up nm hnm 1 hO.has).mono ?_
  rintro v w' ⟨rfl, own', hR', hf⟩
  rw [hO.sync.fin] at hR' ⊢
  exact ⟨rfl, own', ⟨_, hR', hO.sync⟩, hf⟩
theorem one_syncdir {w : World} {base d : Nat} {nm : ByteArray} {room : Nat} {m : FM} {sd : Prop} {N : Nat} {own : Nat → Prop} (h : OneR w base d nm room m sd N own) (hN : N < 1000000) :
    Ans 10 #[.pointer (some ⟨d, 0, none⟩)] w fun v w' => v = 0 ∧ ∃ own', OneR w' base d nm room m True N own' ∧ Fr w w' own own' := by
  obtain ⟨s, hR, hO⟩ := h
  refine (syncdir_rep w base d s N own hR hN hO.up).mono ?_
  rintro v w' ⟨rfl, own', hR', hf⟩
  rw [hO.syncD.fin] at hR' ⊢
  exact ⟨rfl, own', ⟨_, hR', hO.syncD⟩, hf⟩
/-- the power fails, and is back -/
theorem one_crash {w : World} {base d : Nat} {nm : ByteArray} {room : Nat} {m : FM} {N : Nat} {own : Nat → Prop} (h : OneR w base d nm room m True N own) (hN : N < 1000000) (a : Option Addr) (n cap : Nat) (cs : List Int) (hc : Chs w own a n cap cs) :
    Calls Try.prog 13 #[.pointer (some ⟨d, 0, none⟩), .slice a n cap] w fun e w1 => e = .returned (.tuple #[]) ∧ ∃ own1, Fr w w1 own own1 ∧ (∃ s, Rep w1 base d s N own1 ∧ s.down = true) ∧ ∀ w2, Below w1.heap.size w1 w2 →
      Calls Try.prog 16 #[.pointer (some ⟨d, 0, none⟩)] w2 fun e w' => e = .returned (.tuple #[]) ∧ ∃ own', OneR w' base d nm room ⟨(lastF m cs (nxt cs 0)).1, [], (lastF m cs (nxt cs 0)).1⟩ True N own' ∧ Fr w2 w' own1 own' := by
  obtain ⟨s, hR, hO⟩ := h
  obtain ⟨h1, h2⟩ := hO.crash cs
  refine (crash_rep w base d s N own hR hN hO.up a n cap cs hc).mono ?_
  rintro e w1 ⟨rfl, own1, hR1, hf1⟩
  refine ⟨rfl, own1, hf1, ⟨_, hR1, h1⟩, fun w2 hb2 => ?_⟩
  refine (up_rep w2 base d _ N own1 (hR1.below hb2)).mono ?_
  rintro e w' ⟨rfl, own', hR', hf'⟩
  exact ⟨rfl, own', ⟨_, hR', h2⟩, hf'⟩
theorem one_read {w : World} {base d : Nat} {nm : ByteArray} {room : Nat} {m : FM} {sd : Prop} {N : Nat} {own : Nat → Prop} (h : OneR w base d nm room m sd N own) (hN : N < 1000000) (hnm : nmOk nm) :
    Calls Try.prog 12 #[.pointer (some ⟨d, 0, none⟩), .string nm] w fun e w' => ∃ v, e = .returned (.tuple #[v, .int .i64 0]) ∧ Buf w' w.heap.size v m.now ∧ Below w.heap.size w w' := by
  obtain ⟨s, hR, hO⟩ := h
  have := read_rep w base d s N own hR hN hO.up nm hnm 1 hO.has
  rw [hO.fl] at this
  exact this
theorem one_loose {w : World} {base d : Nat} {nm : ByteArray} {room : Nat} {m : FM} {sd : Prop} {N : Nat} {own : Nat → Prop} (h : OneR w base d nm room m sd N own) (hN : N < 1000000) (hnm : nmOk nm) :
    Ans 9 #[.pointer (some ⟨d, 0, none⟩), .string nm] w fun v w' => v = m.chg.length ∧ Below w.heap.size w w' := by
  obtain ⟨s, hR, hO⟩ := h
  have := loose_rep w base d s N own hR hN hO.up nm hnm 1 hO.has
  rw [hO.fl] at this
  exact this
theorem one_full {w : World} {base d : Nat} {nm : ByteArray} {room : Nat} {m : FM} {sd : Prop} {N : Nat} {own : Nat → Prop} (h : OneR w base d nm room m sd N own) (hN : N < 1000000) (hnm : nmOk nm) (at_ : Nat) (hat : at_ ≤ m.now.length) (ai : Option Addr) (k cp : Nat) (p : List Int) (hl : p.length = k) (hb : ai = none → cp = 0) (hp : Has w ai p) (ho : Octets p) (hlen : at_ + k ≤ 1048576) (hgr : m.now.length < at_ + k) (hroom : room < at_ + k) :
    Ans 19 #[.pointer (some ⟨d, 0, none⟩), .string nm, .int .i64 at_, .slice ai k cp] w fun v w' => v = 31 ∧ Below w.heap.size w w' := by
  obtain ⟨s, hR, hO⟩ := h
  exact write_full_rep w base d s N own hR hN hO.up nm hnm 1 hO.has at_ (by rw [hO.fl]; exact hat) ai k cp p hl hb hp ho hlen (by rw [hO.fl]; exact hgr) (by rw [hO.used, hO.fl, hO.room_]; omega)
theorem one_arg {w : World} {base d : Nat} {nm : ByteArray} {room : Nat} {m : FM} {sd : Prop} {N : Nat} {own : Nat → Prop} (h : OneR w base d nm room m sd N own) (nm' : ByteArray) (hnm : ¬ nmOk nm') (hs : nm'.size ≤ maxLen) : Ans 18 #[.pointer (some ⟨d, 0, none⟩), .string nm'] w fun v w' => v = 2 ∧ Below w.heap.size w w' := by
  obtain ⟨s, hR, hO⟩ := h
  exact create_arg_rep w base d s N own hR hO.up nm' hnm hs
end Go.Proofs.Ytkmohpdcchpndaa
