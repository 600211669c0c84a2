import Derived.Test.YtkmohpdcchpndaaBndH
/-
  The walk of DiskBegins.
-/
namespace Go.Proofs.Ytkmohpdcchpndaa
open Go.RowKit Go.Maps
set_option linter.unusedVariables false
set_option linter.unusedSimpArgs false
set_option maxRecDepth 100000
/-- a change that came in -/
structure Ox where
  kd : Int
  nm : ByteArray
  tt : ByteArray
  nn : Int
  a : Option Addr
  n : Nat
  cap : Nat
  zs : List Int
  ca : Option Addr
  cn : Nat
  cc : Nat
  on : Bool
def Ox.cells (o : Ox) : Array Value := #[.int .i64 o.kd, .string o.nm, .string o.tt, .int .i64 o.nn, .slice o.a o.n o.cap, .slice o.ca o.cn o.cc, .bool o.on]
structure LO (W : World) (a : Option Addr) (ls : List Ox) : Prop where
  bs : ∀ c ∈ ls, Bin W c.a c.n c.cap c.zs
  rng : ∀ c ∈ ls, -9223372036854775808 ≤ c.nn ∧ c.nn ≤ 9223372036854775807
  at_ : ls = [] ∨ ∃ bl ol, a = some ⟨bl, ol, none⟩ ∧ ∀ (i : Nat) c, ls[i]? = some c → ∀ (j : Nat) v, c.cells[j]? = some v → W.cell? ⟨bl, ol + i * 7 + j, none⟩ = some v
theorem LO.below {W W' : World} {a : Option Addr} {ls : List Ox} (h : LO W a ls) (hb : Below W.heap.size W W') : LO W' a ls := by
  refine ⟨fun c hc => (h.bs c hc).below hb, h.rng, h.at_.imp id ?_⟩
  rintro ⟨bl, ol, e, hc⟩
  exact ⟨bl, ol, e, fun i c hi j v hv => cell_of_below hb (hc i c hi j v hv)⟩
/-- all that came in -/
structure Inb (wB : World) (sb : Nat) (ab : Option Addr) (nb cb : Nat) (Base : List Int) (ac : Option Addr) (nc cc : Nat) (ops : List Ox) (keep torn : Int) : Prop where
  blk : wB.heap[sb]? = some (.cells #[.slice ab nb cb, .slice ac nc cc, .int .i64 keep, .int .i64 torn] 39 (0, 0))
  base : Bin wB ab nb cb Base
  ops_ : LO wB ac ops
  olen : ops.length = nc
theorem Inb.cells {wB : World} {sb : Nat} {ab : Option Addr} {nb cb : Nat} {Base : List Int} {ac : Option Addr} {nc cc : Nat} {ops : List Ox} {keep torn : Int} (h : Inb wB sb ab nb cb Base ac nc cc ops keep torn) :
    wB.cell? ⟨sb, 0, none⟩ = some (.slice ab nb cb) ∧ wB.cell? ⟨sb, 1, none⟩ = some (.slice ac nc cc) ∧ wB.cell? ⟨sb, 2, none⟩ = some (.int .i64 keep) ∧ wB.cell? ⟨sb, 3, none⟩ = some (.int .i64 torn) := by
  refine ⟨?_, ?_, ?_, ?_⟩ <;> rw [cell_block h.blk] <;> rfl
theorem wpList_append_at {P : Program} (w : World) {ops : Array Oper} {rest : List Oper} {o : Oper} {a : Act} {Q : Exit → Act → World → Prop} (hgd : o.guard = none) (s x : Operand) (t : TypeId)
    (hop : o.op = .call { callee := .builtin .append, args := #[s, x], argTypes := #[t, t] })
    (base : Nat) (e : TypeId) (i : TypeInfo) (z : Value) (size bytes : Nat) (h1 : P.underlying t = some (.slice e)) (h2 : P.info? e = some i) (h3 : i.zero = some z) (h4 : i.size = size) (h5 : i.bytes = bytes) (h6 : z.cells.size = size) (h7 : 0 < size)
    (v : Value) (n : Nat) (xs : List Value) (hs : a.eval s = v) (hown : w.ownsRow base e size v n xs)
    (ad : Addr) (m c : Nat) (news : List Value) (hx : a.eval x = .slice (some ad) m c) (hn : news.length = m * size) (hc : ∀ j u, news[j]? = some u → w.cell? (ad.add j) = some u) (h1c : ∀ u ∈ news, u.oneCell' = true)
    (b1 : n + m ≤ maxLen) (b2 : (n + m) * bytes ≤ 140737488355328) (hb : base ≤ w.heap.size)
    (h : ∀ v' w', w'.ownsRow base e size v' (n + m) (xs ++ news) → w.grownBy w' v.ownBlock → (v'.ownBlock = v.ownBlock ∨ v'.ownBlock = some w.heap.size) → wpList P ops Q rest (a.put o.dst v') w') : wpList P ops Q (o :: rest) a w :=
  wpList_plain hgd fun _ hK => by
    obtain ⟨v', w', hrun, r1, r2, _, r4⟩ := run_append_own_at (P := P) w base t o.type e i z size bytes h1 h2 h3 h4 h5 h6 h7 v n xs hown ad m c news hn hc h1c b1 b2 hb
    unfold Oper.wp
    simp [execOp, hop, resolve, invoke, builtin, hs, hx, hrun, Result.andThen]
    exact hK _ _ (h v' w' r1 r2 r4)
theorem Try.info32s : (Try.prog.info? 32).map (fun i => (i.zero, i.size, i.bytes)) = some (some (.slice none 0 0), 1, 24) := by kernel_rfl
/-- it begins -/
theorem lb_start {wB w6 w7 w8 : World} {Base : List Int} {own : Nat → Prop} {a8 : Option Addr} {nb c8 : Nat} {v9 : Value} (hnb : Base.length = nb) (hnb2 : nb ≤ 4096) (hO : OneR w6 wB.heap.size wB.heap.size nF 1048576 ⟨Base, [], Base⟩ True 2 own) (hF : (∀ k, own k → wB.heap.size ≤ k) ∧ Below wB.heap.size wB w6)
    (hb7 : Below w6.heap.size w6 w7) (hB8 : Buf w7 w6.heap.size (.slice a8 nb c8) Base) (hr : w8.ownsRow wB.heap.size 32 1 v9 1 [.slice a8 nb c8]) (hg : (w7.alloc (.cells #[.slice a8 nb c8] 32 (0, 0))).grownBy w8 none) (hat : v9.ownBlock = some (w7.alloc (.cells #[.slice a8 nb c8] 32 (0, 0))).heap.size) : Lb wB w8 Base 0 (.slice a8 nb c8) v9 (.slice none 0 0) := by
  have hb8 : Below w7.heap.size w7 w8 := ((Below.refl _ w7).alloc (Nat.le_refl _) _).grown hg (by simp) (fun k h => by cases h)
  have hb : Below w6.heap.size w6 w8 := hb7.trans (hb8.mono hb7.size)
  have hnow : Hb w8 own wB.heap.size (.slice a8 nb c8) Base := by
    refine ⟨(hB8.keep fun k hk => hb8.block k (hB8.low hk).2).base ?_, fun k hk h' => ?_⟩
    · exact hF.2.size
    · have := (hB8.low hk).1; have := hO.lt h'; omega
  refine ⟨[], [.slice a8 nb c8], [], 2, own, hO.below hb, hF.1, hF.2.trans (hb.mono hF.2.size), ⟨hnow, ⟨hr, fun k hk h' => ?_⟩, fun j hj => ⟨.slice a8 nb c8, ?_, ?_⟩, ⟨World.ownsRow_nil _ _ _ _, fun k h => by cases h⟩, fun j c h => by simp at h⟩, Nat.zero_le _, ?_, by omega⟩
  · rw [hat] at hk
    cases hk
    have h9 := hO.lt h'
    simp at h9
    have := hb7.size
    omega
  · have : j = 0 := by simpa using hj
    subst this; rfl
  · have : j = 0 := by simpa using hj
    subst this; exact hnow
  · show Base.length ≤ _
    omega
theorem beg_one {w6 w7 : World} {v8 : Value} {Base : List Int} {nb : Nat} (hl : Base.length = nb) (hB : Buf w7 w6.heap.size v8 ([] ++ Base)) (hg : (w6.alloc (.cells #[] 5 (0, 0))).grownBy w7 (Value.slice (some ⟨w6.heap.size, 0, none⟩) 0 0).ownBlock) : ∃ a8 c8, v8 = .slice a8 nb c8 ∧ Hid (Buf w7 w6.heap.size (.slice a8 nb c8) Base) ∧ Hid (Below w6.heap.size w6 w7) := by
  obtain ⟨a8, c8, rfl, _⟩ := hB.form
  rw [List.nil_append, hl] at *
  exact ⟨a8, c8, rfl, hB, ((Below.refl _ w6).alloc (Nat.le_refl _) _).grown hg (by simp) (fun k h => by cases h; exact Nat.le_refl _)⟩
theorem beg_two {wB w6 w7 w8 : World} {Base : List Int} {own : Nat → Prop} {a8 : Option Addr} {nb c8 : Nat} {v9 : Value} (hnb : Base.length = nb) (hnb2 : nb ≤ 4096) (hO : OneR w6 wB.heap.size wB.heap.size nF 1048576 ⟨Base, [], Base⟩ True 2 own) (hF : (∀ k, own k → wB.heap.size ≤ k) ∧ Below wB.heap.size wB w6)
    (hb7 : Below w6.heap.size w6 w7) (hB8 : Buf w7 w6.heap.size (.slice a8 nb c8) Base) (hr : w8.ownsRow wB.heap.size 32 1 v9 (0 + 1) ([] ++ [.slice a8 nb c8])) (hg : (w7.alloc (.cells #[.slice a8 nb c8] 32 (0, 0))).grownBy w8 (Value.slice none 0 0).ownBlock) (hat : v9.ownBlock = (Value.slice none 0 0).ownBlock ∨ v9.ownBlock = some (w7.alloc (.cells #[.slice a8 nb c8] 32 (0, 0))).heap.size) : Lb wB w8 Base 0 (.slice a8 nb c8) v9 (.slice none 0 0) := by
  refine lb_start hnb hnb2 hO hF hb7 hB8 hr hg ?_
  rcases hat with h | h
  · obtain ⟨g, cap, e, _⟩ := hr.form (by omega)
    rw [e] at h; cases h
  · exact h
/-- a disk's operation in a round: the lists and the box are as they were -/
theorem round_one {wB wr wc : World} {own own1 : Nat → Prop} {Base : List Int} {l : List Fc} {now : List Int} {N : Nat} {v8 v9 v10 : Value} {ss os : List Value} {wb : World} {b0 b1 b2 b3 b4 b5 b6 : Value} (hO : OneR wr wB.heap.size wB.heap.size nF 1048576 ⟨Base, l, now⟩ True N own) (hlow : ∀ k, own k → wB.heap.size ≤ k) (hbe : Below wB.heap.size wB wr) (hbg : Bg wB wr own Base l v8 v9 v10 ss os) (hal : Below wr.heap.size wr wb) (hwb : wb = wr.alloc (.cells #[b0, b1, b2, b3, b4, b5, b6] 46 (0, 0))) (hf : Fr wb wc own own1) :
    (∀ k, own1 k → wB.heap.size ≤ k) ∧ Below wB.heap.size wB wc ∧ Bg wB wc own1 Base l v8 v9 v10 ss os ∧ wc.cell? ⟨wr.heap.size, 0, none⟩ = some b0 ∧ wc.cell? ⟨wr.heap.size, 1, none⟩ = some b1 ∧ wc.cell? ⟨wr.heap.size, 2, none⟩ = some b2 ∧ wc.cell? ⟨wr.heap.size, 3, none⟩ = some b3 ∧ wc.cell? ⟨wr.heap.size, 4, none⟩ = some b4 ∧ wc.cell? ⟨wr.heap.size, 5, none⟩ = some b5 ∧ wc.cell? ⟨wr.heap.size, 6, none⟩ = some b6 := by
  obtain ⟨q1, q2⟩ := fr_low hf hlow (hbe.trans (hal.mono hbe.size))
  have hk : wc.heap[wr.heap.size]? = some (.cells #[b0, b1, b2, b3, b4, b5, b6] 46 (0, 0)) := by
    rw [hf.block wr.heap.size (by rw [hwb]; simp) (fun h => by have := hO.lt h; omega), hwb]
    exact Go.heap_alloc_new wr _
  refine ⟨q1, q2, (hbg.tr (tr_below hal own)).tr hf.tr, ?_, ?_, ?_, ?_, ?_, ?_, ?_⟩ <;> rw [cell_block hk] <;> rfl
theorem Try.info46s : (Try.prog.info? 46).map (fun i => (i.zero, i.size, i.bytes)) = some (some (.agg #[.int .i64 0, .string ByteArray.empty, .string ByteArray.empty, .int .i64 0, .slice none 0 0, .slice none 0 0, .bool false]), 7, 104) := by kernel_rfl
theorem row10 {wB wc w2 : World} {own1 : Nat → Prop} {Base : List Int} {l : List Fc} {v8 v9 v10 : Value} {ss os : List Value} (h : Bg wB wc own1 Base l v8 v9 v10 ss os) (hb : Below wc.heap.size wc w2) (O : Obj) : (w2.alloc O).ownsRow wB.heap.size 46 7 v10 l.length os := ((h.tr (tr_below hb own1)).dn.row).alloc O
theorem row9 {wB wc w2 w3 : World} {own1 : Nat → Prop} {Base : List Int} {l : List Fc} {v8 v9 v10 : Value} {ss os : List Value} {O1 : Obj} (h : Bg wB wc own1 Base l v8 v9 v10 ss os) (hb : Below wc.heap.size wc w2) (hg : (w2.alloc O1).grownBy w3 v10.ownBlock) (O : Obj) : (w3.alloc O).ownsRow wB.heap.size 32 1 v9 (l.length + 1) ss :=
  ((h.tr (tr_below hb own1)).st.tr (tr_grown (grown_alloc hg) own1) (fun k hk => row_typ (h.tr (tr_below hb own1)).dn.row hk) (by decide)).row.alloc O
theorem done_new {wB : World} {os : List Value} {j : Nat} {b0 b1 b2 b3 b4 b5 b6 : Value} (hl : os.length = j * 7) {kd nn : Int} {a : Option Addr} {n cap : Nat} {zs : List Int} {c : Fc} (h0 : b0 = .int .i64 kd) (h3 : b3 = .int .i64 nn) (h4 : b4 = .slice a n cap) (hB : Bin wB a n cap zs) (hn : n ≤ 4096) (his : (kd = 1 ∧ ∃ at_ : Nat, nn = (at_ : Int) ∧ c = .wr at_ zs) ∨ (kd = 2 ∧ ∃ k : Nat, nn = (k : Int) ∧ c = .ct k)) : DoneOp wB (os ++ [b0, b1, b2, b3, b4, b5, b6]) j kd nn a n cap zs c := by
  subst h0 h3 h4
  have e : ∀ d, d < 7 → (os ++ [Value.int .i64 kd, b1, b2, .int .i64 nn, .slice a n cap, b5, b6])[7 * j + d]? = [Value.int .i64 kd, b1, b2, .int .i64 nn, .slice a n cap, b5, b6][d]? := fun d hd => by
    rw [List.getElem?_append_right (by omega), show 7 * j + d - os.length = d by omega]
  exact ⟨e 0 (by omega), e 3 (by omega), e 4 (by omega), hB, hn, his⟩
theorem cut_end {wB w1 w2 w3 w4 : World} {own1 : Nat → Prop} {Base : List Int} {l : List Fc} {k : Nat} {v8 u9 u10 v8' u9' u10' : Value} {ss os : List Value} {i N : Nat} {O1 O2 : Obj} {b1 b2 b5 b6 : Value} {a : Option Addr} {n cap : Nat} {zs : List Int}
    (hO1 : OneR w1 wB.heap.size wB.heap.size nF 1048576 ⟨Base, l ++ [.ct k], (chgAll Base l).take k⟩ True (N + 1) own1) (hlow : ∀ k, own1 k → wB.heap.size ≤ k) (hbel : Below wB.heap.size wB w1) (hBg : Bg wB w1 own1 Base l v8 u9 u10 ss os)
    (hb2 : Below w1.heap.size w1 w2) (hB8 : Buf w2 w1.heap.size v8' ((chgAll Base l).take k))
    (hr3 : w3.ownsRow wB.heap.size 46 7 u10' (l.length + 1) (os ++ [.int .i64 2, b1, b2, .int .i64 k, .slice a n cap, b5, b6])) (hg3 : (w2.alloc O1).grownBy w3 u10.ownBlock) (ht3 : u10'.ownBlock = u10.ownBlock ∨ u10'.ownBlock = some (w2.alloc O1).heap.size)
    (hr4 : w4.ownsRow wB.heap.size 32 1 u9' (l.length + 1 + 1) (ss ++ [v8'])) (hg4 : (w3.alloc O2).grownBy w4 u9.ownBlock) (ht4 : u9'.ownBlock = u9.ownBlock ∨ u9'.ownBlock = some (w3.alloc O2).heap.size)
    (hB : Bin wB a n cap zs) (hn : n ≤ 4096) (hl : l.length ≤ i) (hsz : (chgAll Base l).length ≤ 4096 * (i + 1)) (hN : N ≤ 2 + i) : Lb wB w4 Base (i + 1) v8' u9' u10' := by
  have e : chgAll Base (l ++ [.ct k]) = (chgAll Base l).take k := chgAll_snoc Base l (.ct k)
  rw [← e] at hO1 hB8
  exact lb_more hO1 hlow hbel hBg hb2 hB8 hr3 hg3 ht3 hr4 hg4 ht4 (done_new (c := .ct k) hBg.dn.row.1 rfl rfl rfl hB hn (.inr ⟨rfl, k, rfl, rfl⟩)) hl (by rw [e, List.length_take]; omega) hN
theorem box_new (w : World) (cs : Array Value) : ((w.alloc (.cells #[] 5 (0, 0))).alloc (.cells cs 46 (0, 0))).heap[w.heap.size + 1]? = some (.cells cs 46 (0, 0)) := by
  have e : w.heap.size + 1 = (w.alloc (.cells #[] 5 (0, 0))).heap.size := by simp
  rw [e]
  exact Go.heap_alloc_new _ _
theorem wrote_eq (b : List Int) (l : List Fc) (k : Nat) (z : List Int) : chgAll b (l ++ [.wr k z]) = over (chgAll b l) k z := by
  rw [chgAll_snoc]
  show over (chgAll b l) k (z.take z.length) = _
  rw [List.take_length]
/-- a piece is lent and written -/
theorem write_all {wB wr wb : World} {own : Nat → Prop} {Base : List Int} {l : List Fc} {N : Nat} {v8 v9 v10 : Value} {ss os : List Value} {b0 b1 b2 b5 b6 : Value} {k : Nat} {da : Option Addr} {dn dc : Nat} {dz : List Int} (hO : OneR wr wB.heap.size wB.heap.size nF 1048576 ⟨Base, l, chgAll Base l⟩ True N own) (hlow : ∀ k, own k → wB.heap.size ≤ k) (hbe : Below wB.heap.size wB wr) (hbg : Bg wB wr own Base l v8 v9 v10 ss os) (hwb : wb = (wr.alloc (.cells #[b0, b1, b2, .int .i64 k, .slice da dn dc, b5, b6] 46 (0, 0))).drew) (hB : Bin wB da dn dc dz) (hN : N + 1 < 1000000) (hk : k ≤ (chgAll Base l).length) (hsz : k + dn ≤ 1048576) :
    Calls Try.prog 20 #[.slice da dn dc] wb fun e wx => ∃ g off cp, e = .returned (.slice (some ⟨g, off, none⟩) dn cp) ∧ wx.cell? ⟨wr.heap.size, 3, none⟩ = some (.int .i64 k) ∧ wx.cell? ⟨wr.heap.size, 4, none⟩ = some (.slice da dn dc) ∧
      Calls Try.prog 19 #[.pointer (some ⟨wB.heap.size, 0, none⟩), .string nF, .int .i64 k, .slice (some ⟨g, off, none⟩) dn cp] wx fun e wc => e = .returned (.int .i64 0) ∧ wc.cell? ⟨wr.heap.size, 3, none⟩ = some (.int .i64 k) ∧ wc.cell? ⟨wr.heap.size, 4, none⟩ = some (.slice da dn dc) ∧ ∃ own1, OneR wc wB.heap.size wB.heap.size nF 1048576 ⟨Base, l ++ [.wr k dz], over (chgAll Base l) k dz⟩ True (N + 1) own1 ∧
        (∀ k, own1 k → wB.heap.size ≤ k) ∧ Below wB.heap.size wB wc ∧ Bg wB wc own1 Base l v8 v9 v10 ss os ∧ wc.cell? ⟨wr.heap.size, 0, none⟩ = some b0 ∧ wc.cell? ⟨wr.heap.size, 1, none⟩ = some b1 ∧ wc.cell? ⟨wr.heap.size, 2, none⟩ = some b2 ∧ wc.cell? ⟨wr.heap.size, 5, none⟩ = some b5 ∧ wc.cell? ⟨wr.heap.size, 6, none⟩ = some b6 := by
  have hal : Below wr.heap.size wr wb := by rw [hwb]; exact ((Below.refl _ wr).alloc (Nat.le_refl _) _).drew
  have hbb : Below wB.heap.size wB wb := hbe.trans (hal.mono hbe.size)
  have hkb : wb.heap[wr.heap.size]? = some (.cells #[b0, b1, b2, .int .i64 k, .slice da dn dc, b5, b6] 46 (0, 0)) := by rw [hwb]; exact Go.heap_alloc_new wr _
  refine (lent_any wb da dn dc dz hB.len (hB.has.of_below hbb) hB.oct hB.bare (by omega)).mono ?_
  rintro e wx ⟨g, off, cp, rfl, hh, _, hbx⟩
  have hkx : wx.heap[wr.heap.size]? = some (.cells #[b0, b1, b2, .int .i64 k, .slice da dn dc, b5, b6] 46 (0, 0)) := (hbx.block _ (lt_of_block hkb)).trans hkb
  refine ⟨g, off, cp, rfl, by rw [cell_block hkx]; rfl, by rw [cell_block hkx]; rfl, ?_⟩
  have hax : Below wr.heap.size wr wx := hal.trans (hbx.mono hal.size)
  refine Calls.mono (one_write (hO.below hax) hN nm_f k hk (some ⟨g, off, none⟩) dn cp dz hB.len (fun h => by cases h) hh hB.oct hsz hsz) ?_
  rintro e wc ⟨v, rfl, rfl, own1, hO1, hf⟩
  obtain ⟨q1, q2⟩ := fr_low hf hlow (hbe.trans (hax.mono hbe.size))
  have hkc : wc.heap[wr.heap.size]? = some (.cells #[b0, b1, b2, .int .i64 k, .slice da dn dc, b5, b6] 46 (0, 0)) := (hf.block _ (lt_of_block hkx) (fun h => by have := hO.lt h; omega)).trans hkx
  refine ⟨rfl, by rw [cell_block hkc]; rfl, by rw [cell_block hkc]; rfl, own1, hO1, q1, q2, (hbg.tr (tr_below hax own)).tr hf.tr, ?_, ?_, ?_, ?_, ?_⟩ <;> rw [cell_block hkc] <;> rfl
theorem write_end {wB w1 w2 w3 w4 : World} {own1 : Nat → Prop} {Base : List Int} {l : List Fc} {k : Nat} {v8 u9 u10 v8' u9' u10' : Value} {ss os : List Value} {i N : Nat} {O1 O2 : Obj} {b1 b2 b5 b6 : Value} {a : Option Addr} {n cap : Nat} {zs : List Int}
    (hO1 : OneR w1 wB.heap.size wB.heap.size nF 1048576 ⟨Base, l ++ [.wr k zs], over (chgAll Base l) k zs⟩ True (N + 1) own1) (hlow : ∀ k, own1 k → wB.heap.size ≤ k) (hbel : Below wB.heap.size wB w1) (hBg : Bg wB w1 own1 Base l v8 u9 u10 ss os)
    (hb2 : Below w1.heap.size w1 w2) (hB8 : Buf w2 w1.heap.size v8' (over (chgAll Base l) k zs))
    (hr3 : w3.ownsRow wB.heap.size 46 7 u10' (l.length + 1) (os ++ [.int .i64 1, b1, b2, .int .i64 k, .slice a n cap, b5, b6])) (hg3 : (w2.alloc O1).grownBy w3 u10.ownBlock) (ht3 : u10'.ownBlock = u10.ownBlock ∨ u10'.ownBlock = some (w2.alloc O1).heap.size)
    (hr4 : w4.ownsRow wB.heap.size 32 1 u9' (l.length + 1 + 1) (ss ++ [v8'])) (hg4 : (w3.alloc O2).grownBy w4 u9.ownBlock) (ht4 : u9'.ownBlock = u9.ownBlock ∨ u9'.ownBlock = some (w3.alloc O2).heap.size)
    (hB : Bin wB a n cap zs) (hn : n ≤ 4096) (hl : l.length ≤ i) (hk : k ≤ (chgAll Base l).length) (hsz : (chgAll Base l).length ≤ 4096 * (i + 1)) (hN : N ≤ 2 + i) : Lb wB w4 Base (i + 1) v8' u9' u10' := by
  have e := wrote_eq Base l k zs
  have hz := hB.len
  rw [← e] at hO1 hB8
  exact lb_more hO1 hlow hbel hBg hb2 hB8 hr3 hg3 ht3 hr4 hg4 ht4 (done_new (c := .wr k zs) hBg.dn.row.1 rfl rfl rfl hB hn (.inl ⟨rfl, k, rfl, rfl⟩)) hl (by rw [e, over_length _ _ _ hk]; omega) hN
theorem over_fin {wc wd : World} {v : Value} {b z : List Int} {k n : Nat} (hz : z.length = n) (hB : Buf wd wc.heap.size v (over b k (z.take n))) : ∃ a9 M c9, v = .slice a9 M c9 ∧ Hid (Buf wd wc.heap.size (.slice a9 M c9) (over b k z)) := by
  rw [List.take_of_length_le (by omega)] at hB
  obtain ⟨a9, c9, rfl, _⟩ := hB.form
  exact ⟨a9, _, c9, rfl, hB⟩
/-- the end: the power fails and is back, the file is read -/
theorem tail_beg {wB W : World} {own : Nat → Prop} {Base : List Int} {l : List Fc} {N : Nat} {keep torn : Int} {a16 : Option Addr} {n16 c16 : Nat} {want : List Int} (hO : OneR W wB.heap.size wB.heap.size nF 1048576 ⟨Base, l, chgAll Base l⟩ True N own) (hlow : ∀ k, own k → wB.heap.size ≤ k) (hbe : Below wB.heap.size wB W) (hv : Hb W own wB.heap.size (.slice a16 n16 c16) want) (hw : want = begun Base l keep torn) (hN : N < 1000000) (hkp : -9223372036854775808 ≤ keep ∧ keep ≤ 9223372036854775807) (htn : -9223372036854775808 ≤ torn ∧ torn ≤ 9223372036854775807) :
    Calls Try.prog 13 #[.pointer (some ⟨wB.heap.size, 0, none⟩), .slice (some ⟨W.heap.size, 0, none⟩) 3 3] (W.alloc (.cells #[.int .i64 0, .int .i64 keep, .int .i64 torn] 3 (0, 0))) fun e w1 => e = .returned (.tuple #[]) ∧ Calls Try.prog 16 #[.pointer (some ⟨wB.heap.size, 0, none⟩)] w1 fun e w2 => e = .returned (.tuple #[]) ∧ Calls Try.prog 12 #[.pointer (some ⟨wB.heap.size, 0, none⟩), .string nF] w2 fun e w3 => ∃ ar nr cr X, e = .returned (.tuple #[.slice ar nr cr, .int .i64 0]) ∧
      (convert 32 9 (.slice ar nr cr)).run Try.prog w3 = .ok (.string X) w3 ∧ (convert 32 9 (.slice a16 n16 c16)).run Try.prog w3 = .ok (.string X) w3 ∧ Calls Try.prog 9 #[.pointer (some ⟨wB.heap.size, 0, none⟩), .string nF] w3 fun e w4 => e = .returned (.int .i64 0) ∧ Below wB.heap.size wB w4 := by
  have hal : Below W.heap.size W (W.alloc (.cells #[.int .i64 0, .int .i64 keep, .int .i64 torn] 3 (0, 0))) := (Below.refl _ W).alloc (Nat.le_refl _) _
  refine Calls.mono (one_crash (hO.below hal) hN (some ⟨W.heap.size, 0, none⟩) 3 3 [0, keep, torn] (chs3 (fun k hk => hO.lt hk) 0 keep torn (by intro z hz; simp at hz; rcases hz with rfl | rfl | rfl <;> omega))) ?_
  rintro e w1 ⟨rfl, own1, hf1, _, hu⟩
  refine ⟨rfl, Calls.mono (hu w1 (Below.refl _ _)) ?_⟩
  rintro e w2 ⟨rfl, own2, hO2, hf2⟩
  refine ⟨rfl, ?_⟩
  have hv2 := ((hv.tr (tr_below hal own) (OfT.none W 46) (by decide)).tr hf1.tr (OfT.none _ 46) (by decide)).tr hf2.tr (OfT.none _ 46) (by decide)
  obtain ⟨q1, q2⟩ := fr_low (hf1.trans hf2) hlow (hbe.trans (hal.mono hbe.size))
  refine Calls.mono (one_read hO2 hN nm_f) ?_
  rintro e w3 ⟨v, rfl, hB, hb3⟩
  have hv3 := hv2.tr (tr_below hb3 own2) (OfT.none _ 46) (by decide)
  obtain ⟨ar, cr, rfl, _, hh, _⟩ := hB.form
  have eb : (lastF ⟨Base, l, chgAll Base l⟩ [0, keep, torn] (nxt [0, keep, torn] 0)).1 = want := (begins_last Base (chgAll Base l) l keep torn).trans hw.symm
  have hn16 : want.length = n16 := by obtain ⟨_, _, e, _⟩ := hv.buf.form; cases e; rfl
  refine ⟨ar, _, cr, bstr want, rfl, ?_, str_of w3 a16 n16 c16 want hn16 hv3.buf.has', ?_⟩
  · have := str_of w3 ar _ cr _ rfl hh
    rw [← eb]
    exact this
  · refine Calls.mono (one_loose (hO2.below hb3) hN nm_f) ?_
    rintro e w4 ⟨v, rfl, hv', hb4⟩
    refine ⟨by rw [hv']; rfl, (q2.trans (hb3.mono q2.size)).trans (hb4.mono (Nat.le_trans q2.size hb3.size))⟩
theorem beg_ok {Base now z : List Int} {l : List Fc} {k at_ : Nat} (h : FOk ⟨Base, l, now⟩) (hc : l[k]? = some (.wr at_ z)) : at_ ≤ (chgAll Base (l.take k)).length ∧ (chgAll Base (l.take k)).length ≤ 1048576 := by
  have h1 := h.1.at k
  obtain ⟨hlt, e⟩ := List.getElem?_eq_some_iff.1 hc
  rw [List.drop_eq_getElem_cons hlt, e] at h1
  exact ⟨h1.2.1, h1.small⟩
theorem over_all {wB wl : World} {own : Nat → Prop} {ak : Option Addr} {nk ck : Nat} {st : List Int} {da : Option Addr} {dn dc : Nat} {dz : List Int} {at_ r : Nat} {p q : Addr} {u v : Value} (hv : Hb wl own wB.heap.size (.slice ak nk ck) st) (hbe : Below wB.heap.size wB wl) (hB : Bin wB da dn dc dz) (hown : ∀ k, own k → k < wl.heap.size) (hst : st.length = nk) (hat : at_ ≤ nk) (hnk : nk ≤ 1048576) (hdn : dn ≤ 4096) (hr : r ≤ dn) (h1 : wl.cell? p = some u) (h2 : wl.cell? q = some v) :
    Calls Try.prog 23 #[.slice ak nk ck, .int .i64 at_, .slice da dn dc, .int .i64 r] wl.drew fun e wz => ∃ a n c, e = .returned (.slice a n c) ∧ wz.cell? p = some u ∧ wz.cell? q = some v ∧ Hb wz own wB.heap.size (.slice a n c) (over st at_ (dz.take r)) ∧ Below wl.heap.size wl wz := by
  have hd : Below wl.heap.size wl wl.drew := (Below.refl _ wl).drew
  obtain ⟨ao, cap, e, hbare, hh, hf, hm⟩ := hv.buf.form
  cases e
  refine (over_any wl.drew ak _ ck st rfl (hh.of_below hd) hv.buf.1 hbare hf hm at_ hat da dn dc dz hB.len (hB.has.of_below (hbe.trans (hd.mono hbe.size))) hB.oct hB.bare hB.fits hB.cap r hr (by omega) (by omega)).mono ?_
  rintro e wz ⟨v', rfl, hBv, hbl⟩
  obtain ⟨a, c, rfl, _⟩ := hBv.form
  have hbl' : Below wl.heap.size wl wz := hd.trans hbl
  refine ⟨a, _, c, rfl, cell_of_below hbl' h1, cell_of_below hbl' h2, ⟨hBv.base hbe.size, fun k hk h' => ?_⟩, hbl'⟩
  have h9 : wl.heap.size ≤ k := (hBv.low hk).1
  have := hown k h'
  omega
set_option maxHeartbeats 4000000 in
theorem begins_any (w : World) (ab : Option Addr) (nb cb : Nat) (Base : List Int) (ac : Option Addr) (nc cc : Nat) (ops : List Ox) (keep torn : Int) (hbase : Bin w ab nb cb Base) (hops : LO w ac ops) (hlen : ops.length = nc) (hkp : -9223372036854775808 ≤ keep ∧ keep ≤ 9223372036854775807) (htn : -9223372036854775808 ≤ torn ∧ torn ≤ 9223372036854775807) (hnb : nb ≤ 140737488351232) (hnc : nc ≤ 140737488351232) :
    Calls Try.prog 4 #[.agg #[.slice ab nb cb, .slice ac nc cc, .int .i64 keep, .int .i64 torn]] w fun e w' => e = .returned (.bool true) ∧ Below w.heap.size w w' := by
  have HB0 := hide2 hbase
  have HO0 := hide2 hops
  have HLn := hide2 hlen
  clear hbase hops hlen
  obtain ⟨i0, hi, hz0, hz1, hz2⟩ := info_parts Try.info5
  go_enter Try.func4, Try.ntmps4
  go_wp2_with fail
  refine Calls.mono (awake_any _) ?_
  rintro e wB ⟨rfl, hb⟩
  have HBW := hide2 (((Below.refl _ w).alloc (Nat.le_refl _) (.cells #[.slice ab nb cb, .slice ac nc cc, .int .i64 keep, .int .i64 torn] 39 (0, 0))).trans (hb.mono (by simp)))
  have HI : Hid (Inb wB w.heap.size ab nb cb Base ac nc cc ops keep torn) := ⟨(hb.block _ (by simp)).trans (Go.heap_alloc_new w _), HB0.out.below HBW.out, HO0.out.below HBW.out, HLn.out⟩
  obtain ⟨x0, x1, x2, x3⟩ := HI.out.cells
  obtain ⟨sb, hsb⟩ : ∃ sb, w.heap.size = sb := ⟨_, rfl⟩
  rw [hsb] at HI x0 x1 x2 x3
  rw [hsb]
  clear hb HB0 HO0 HLn
  by_cases hO : 4096 < nb
  · go_wp2
    go_ret
    rw [← hsb]
    exact ⟨rfl, HBW.out⟩
  by_cases hM : 40 < nc
  · go_wp2
    go_ret
    rw [← hsb]
    exact ⟨rfl, HBW.out⟩
  have HN := hide2 (one_new 1048576 wB (by omega) nF nm_f)
  go_wp2_with fail
  refine Calls.mono HN.out ?_
  rintro e w1 ⟨rfl, hb1, hc⟩
  have HC := hide2 hc
  clear hc hb1 HN x0 x1 x2 x3
  go_wp2_with fail
  refine Calls.mono HC.out ?_
  rintro e w2 ⟨v, rfl, hv, own2, hO2, hb2, hlow2⟩
  subst hv
  have HO2 := hide2 hO2
  have HB2 := hide2 hb2
  have HL2 := hide2 hlow2
  clear hO2 hb2 hlow2 HC
  go_wp2_with fail
  refine Calls.mono (lent_any w2 ab nb cb Base HI.out.base.len (HI.out.base.has.of_below HB2.out) HI.out.base.oct HI.out.base.bare hnb) ?_
  rintro e w3 ⟨g3, o3, c3, rfl, hh3, hg3, hb3⟩
  have HH3 := hide2 hh3
  have HB3 := hide2 hb3
  clear hh3 hb3
  go_wp2_with fail
  refine Calls.mono (one_write (HO2.out.below HB3.out) (by omega) nm_f 0 (Nat.zero_le _) (some ⟨g3, o3, none⟩) nb c3 Base HI.out.base.len (fun h => by cases h) HH3.out HI.out.base.oct (by omega) (by omega)) ?_
  rintro e w4 ⟨v, rfl, hv, own4, hO4, hf4⟩
  subst hv
  have HO4 : Hid (OneR w4 wB.heap.size wB.heap.size nF 1048576 ⟨[], [.wr 0 Base], Base⟩ False 2 own4) := by
    have e : over [] 0 Base = Base := by simp [over]
    rw [e] at hO4
    exact hO4
  have HF4 := hide2 (fr_low ((Fr.below HB3.out own2).trans hf4) HL2.out HB2.out)
  clear hO4 hf4 HO2 HB2 HL2 HB3 HH3
  go_wp2_with fail
  refine Calls.mono (one_sync HO4.out (by omega) nm_f) ?_
  rintro e w5 ⟨v, rfl, hv, own5, hO5, hf5⟩
  subst hv
  have HO5 := hide2 hO5
  have HF5 := hide2 (fr_low hf5 HF4.out.1 HF4.out.2)
  clear hO5 hf5 HO4 HF4
  go_wp2_with fail
  refine Calls.mono (one_syncdir HO5.out (by omega)) ?_
  rintro e w6 ⟨v, rfl, hv, own6, hO6, hf6⟩
  subst hv
  have HO6 := hide2 hO6
  have HF6 := hide2 (fr_low hf6 HF5.out.1 HF5.out.2)
  clear hO6 hf6 HO5 HF5
  have HE : Hid (Buf (w6.alloc (.cells #[] 5 (0, 0))) w6.heap.size (.slice (some ⟨w6.heap.size, 0, none⟩) 0 0) []) := buf_empty w6
  have HBs : Hid (Has (w6.alloc (.cells #[] 5 (0, 0))) ab Base) := (HI.out.base.has.of_below HF6.out.2).of_below ((Below.refl _ w6).alloc (Nat.le_refl _) _)
  obtain ⟨is, hsi, sz0, sz1, sz2⟩ := info_parts Try.info32s
  go_wp2_with (first
    | (at_builtin; refine wpList_append_buf _ rfl (.tmp 54) (.tmp 55) 32 rfl w6.heap.size i0 Try.underlying32 hi hz0 hz1 hz2 (.slice (some ⟨w6.heap.size, 0, none⟩) 0 0) [] rfl HE.out ab nb cb Base rfl HI.out.base.len HI.out.base.bare HBs.out HI.out.base.oct (by simp; omega) (by simp) ?_; intro v8 w7 hb8 hg8 _; obtain ⟨a8, c8, rfl, HB8, HB7⟩ := beg_one HI.out.base.len hb8 hg8; clear hb8 hg8)
    | (at_builtin; refine wpList_append_at _ rfl (.tmp 57) (.tmp 59) 44 rfl wB.heap.size 32 is (.slice none 0 0) 1 24 Try.underlying44 hsi sz0 sz1 sz2 rfl (by decide) (.slice none 0 0) 0 [] rfl (World.ownsRow_nil _ _ _ _) ⟨w7.heap.size, 0, none⟩ 1 1 [.slice a8 nb c8] rfl rfl (World.news_of_block (Go.heap_alloc_new w7 _)) (by simp [Value.oneCell']) (by decide) (by decide) (by have := HF6.out.2.size; have := HB7.out.size; simp; omega) ?_; intro v9 w8 hr9 hg9 ht9; have HL0 : Hid (Lb wB w8 Base 0 (.slice a8 nb c8) v9 (.slice none 0 0)) := beg_two HI.out.base.len (by omega) HO6.out HF6.out HB7.out HB8.out hr9 hg9 ht9; clear hr9 hg9 ht9))
  clear HE HBs HO6 HF6 HB8 HB7
  go_loopw [8, 9, 10, 11, 12] (fun t8 t9 t10 t11 t12 wr => ∃ (i : Nat), t11 = .int .i64 i ∧ i ≤ nc ∧ Hid (Lb wB wr Base i t8 t9 t10)) (fun t8 t9 t10 t11 t12 _ => nc - (intOf t11).toNat)
  case atStart => exact ⟨0, rfl, by omega, HL0⟩
  case round =>
    obtain ⟨i, rfl, hic, HL⟩ := hrel
    clear HL0
    by_cases hlt : i < nc
    · obtain ⟨l, ss, os, N, own, h1, h2, h3, h4, h5, h6, h7⟩ := HL.out
      obtain ⟨a8', c8', e8, hb8, hh8, hf8, hm8⟩ := h4.now.buf.form
      obtain ⟨c, hc⟩ : ∃ c, ops[i]? = some c := ⟨ops[i]'(by rw [HI.out.olen]; exact hlt), List.getElem?_eq_getElem _⟩
      obtain ⟨bl, ol, rfl, hcell⟩ : ∃ bl ol, ac = some ⟨bl, ol, none⟩ ∧ ∀ (j : Nat) v, c.cells[j]? = some v → wr.cell? ⟨bl, ol + i * 7 + j, none⟩ = some v := by
        rcases HI.out.ops_.at_ with e | ⟨bl, ol, e, hx⟩
        · rw [e] at hc; simp at hc
        · exact ⟨bl, ol, e, fun j v hv => cell_of_below h3 (hx i c hc j v hv)⟩
      obtain ⟨kd, nm, tt, nn, da, dn, dc, dz, ca, cn, cc', on⟩ := c
      have f0 : wr.cell? ⟨bl, ol + i * 7, none⟩ = some (.int .i64 kd) := hcell 0 _ rfl
      have f1 : wr.cell? ⟨bl, ol + i * 7 + 1, none⟩ = some (.string nm) := hcell 1 _ rfl
      have f2 : wr.cell? ⟨bl, ol + i * 7 + 2, none⟩ = some (.string tt) := hcell 2 _ rfl
      have f3 : wr.cell? ⟨bl, ol + i * 7 + 3, none⟩ = some (.int .i64 nn) := hcell 3 _ rfl
      have f4 : wr.cell? ⟨bl, ol + i * 7 + 4, none⟩ = some (.slice da dn dc) := hcell 4 _ rfl
      have f5 : wr.cell? ⟨bl, ol + i * 7 + 5, none⟩ = some (.slice ca cn cc') := hcell 5 _ rfl
      have f6 : wr.cell? ⟨bl, ol + i * 7 + 6, none⟩ = some (.bool on) := hcell 6 _ rfl
      have hlt' : (i : Int) < nc := by omega
      have i00 : (0 : Int) ≤ i := by omega
      obtain ⟨L, hL⟩ : ∃ L, (chgAll Base l).length = L := ⟨_, rfl⟩
      rw [hL] at e8
      subst e8
      have HOn := hide2 h1
      have HLo := hide2 h2
      have HBe := hide2 h3
      have HBg := hide2 h4
      have HHL := hide2 hL
      have HHas := hide2 hh8
      have HBd : Hid (Bin wB da dn dc dz) := HI.out.ops_.bs _ (List.mem_of_getElem? hc)
      have hnr : -9223372036854775808 ≤ nn ∧ nn ≤ 9223372036854775807 := HI.out.ops_.rng _ (List.mem_of_getElem? hc)
      clear h1 h2 h3 h4 hh8 hcell hc
      by_cases hs1 : 4096 < dn
      · go_wp2_with fail
        exact ⟨⟨i + 1, by go_num, by omega, HL.out.below ((Below.refl _ wr).alloc (Nat.le_refl _) _)⟩, by simp [intOf]; omega⟩
      by_cases hs2 : nn < 0
      · go_wp2_with fail
        exact ⟨⟨i + 1, by go_num, by omega, HL.out.below ((Below.refl _ wr).alloc (Nat.le_refl _) _)⟩, by simp [intOf]; omega⟩
      by_cases hs3 : (L : Int) < nn
      · go_wp2_with fail
        exact ⟨⟨i + 1, by go_num, by omega, HL.out.below ((Below.refl _ wr).alloc (Nat.le_refl _) _)⟩, by simp [intOf]; omega⟩
      obtain ⟨k, rfl⟩ : ∃ k : Nat, nn = (k : Int) := ⟨nn.toNat, by omega⟩
      have hkL : k ≤ L := by omega
      have hAl : Hid (Below wr.heap.size wr (wr.alloc (.cells #[.int .i64 kd, .string nm, .string tt, .int .i64 k, .slice da dn dc, .slice ca cn cc', .bool on] 46 (0, 0)))) := (Below.refl _ wr).alloc (Nat.le_refl _) _
      by_cases hk2 : kd = 2
      · subst hk2
        go_wp2_with fail
        refine Calls.mono (one_cut (HOn.out.below hAl.out) (by omega) nm_f k (by show k ≤ (chgAll Base l).length; rw [HHL.out]; exact hkL)) ?_
        rintro e wc ⟨v, rfl, hv, own1, hO1, hf1⟩
        subst hv
        have HX := hide2 (round_one HOn.out HLo.out HBe.out HBg.out hAl.out rfl hf1)
        have HO1 := hide2 hO1
        obtain ⟨g0, g1, g2, g3', g4, g5, g6⟩ := HX.out.2.2.2
        clear hO1 hf1 f0 f1 f2 f3 f4 f5 f6
        have HE : Hid (Buf (wc.alloc (.cells #[] 5 (0, 0))) wc.heap.size (.slice (some ⟨wc.heap.size, 0, none⟩) 0 0) []) := buf_empty wc
        have hal2 : Below wc.heap.size wc (wc.alloc (.cells #[] 5 (0, 0))) := (Below.refl _ wc).alloc (Nat.le_refl _) _
        have HTk := hide2 ((has_take HX.out.2.2.1.now.buf.has' k).of_below hal2)
        have HLk : Hid (((chgAll Base l).take k).length = k) := (by rw [List.length_take, HHL.out]; omega : ((chgAll Base l).take k).length = k)
        have HOk : Hid (Octets ((chgAll Base l).take k)) := HX.out.2.2.1.now.buf.1.take k
        have HBk := hide2 hb8
        obtain ⟨io, hoi, oz0, oz1, oz2⟩ := info_parts Try.info46s
        have hlen40 : l.length ≤ 40 := by omega
        have hkc : (k : Int) ≤ c8' := by omega
        have hkz : k ≤ 1048576 := by omega
        have hosl : Hid (os.length = l.length * 7) := HX.out.2.2.1.dn.row.1
        have g3a := cell_of_below hal2 g3'
        have HAL := hide2 hal2
        clear hal2
        rcases a8' with _ | x8
        · obtain rfl := hb8 rfl
          obtain rfl : L = 0 := by omega
          obtain rfl : k = 0 := by omega
          have y0 := cell_of_below HAL.out g0
          have y1 := cell_of_below HAL.out g1
          have y2 := cell_of_below HAL.out g2
          have y4 := cell_of_below HAL.out g4
          have y5 := cell_of_below HAL.out g5
          have y6 := cell_of_below HAL.out g6
          have HR10 := hide2 (row10 HX.out.2.2.1 HAL.out)
          have HNw := hide2 (World.news_of_block (box_new wc #[.int .i64 2, .string nm, .string tt, .int .i64 0, .slice da dn dc, .slice ca cn cc', .bool on]))
          have hsB : wB.heap.size ≤ wc.heap.size := HX.out.2.1.size
          go_wp2_with (first
            | (at_builtin; refine wpList_append_at _ rfl (.tmp 119) (.tmp 121) 22 rfl wB.heap.size 46 io _ 7 104 Try.underlying22 hoi oz0 oz1 oz2 rfl (by decide) u10 l.length os rfl (HR10.out _) ⟨wc.heap.size + 1, 0, none⟩ 1 1 [.int .i64 2, .string nm, .string tt, .int .i64 0, .slice da dn dc, .slice ca cn cc', .bool on] rfl rfl HNw.out (by simp [Value.oneCell']) (by unfold maxLen; omega) (by omega) (by simp; omega) ?_; intro v10 we hr3 hg3 ht3; have HR3 := hide2 hr3; have HG3 := hide2 hg3; have HT3 := hide2 ht3; have HR9 := hide2 (row9 HX.out.2.2.1 HAL.out hg3); have hsE : wB.heap.size ≤ we.heap.size := Nat.le_trans (Nat.le_trans hsB HAL.out.size) (grown_alloc hg3).size; clear hr3 hg3 ht3)
            | (at_builtin; refine wpList_append_at _ rfl (.tmp 123) (.tmp 125) 44 rfl wB.heap.size 32 is (.slice none 0 0) 1 24 Try.underlying44 hsi sz0 sz1 sz2 rfl (by decide) u9 (l.length + 1) ss rfl (HR9.out _) ⟨we.heap.size, 0, none⟩ 1 1 [.slice (some ⟨wc.heap.size, 0, none⟩) 0 0] rfl rfl (World.news_of_block (Go.heap_alloc_new we _)) (by simp [Value.oneCell']) (by unfold maxLen; omega) (by omega) (by simp; omega) ?_; intro v9' wf hr4 hg4 ht4; have HR4 := hide2 hr4; have HG4 := hide2 hg4; have HT4 := hide2 ht4; clear hr4 hg4 ht4))
          exact ⟨⟨i + 1, by go_num, by omega, cut_end HO1.out HX.out.1 HX.out.2.1 HX.out.2.2.1 HAL.out (by rw [List.take_zero]; exact HE.out) HR3.out HG3.out HT3.out HR4.out HG4.out HT4.out HBd.out (by omega) h5 h6 h7⟩, by simp [intOf]; omega⟩
        · go_wp2_with (first
            | (at_builtin; refine wpList_append_buf _ rfl (.tmp 95) (.tmp 99) 32 rfl wc.heap.size i0 Try.underlying32 hi hz0 hz1 hz2 (.slice (some ⟨wc.heap.size, 0, none⟩) 0 0) [] rfl HE.out (some x8) k c8' ((chgAll Base l).take k) rfl HLk.out HBk.out HTk.out HOk.out (by simp; omega) (by simp) ?_; intro v8 wd hb8 hg8 _; obtain ⟨a9, c9, rfl, HB9, HBl⟩ := beg_one HLk.out hb8 hg8; have y0 := cell_of_below HBl.out g0; have y1 := cell_of_below HBl.out g1; have y2 := cell_of_below HBl.out g2; have y3 := cell_of_below HBl.out g3'; have y4 := cell_of_below HBl.out g4; have y5 := cell_of_below HBl.out g5; have y6 := cell_of_below HBl.out g6; have HR10 := hide2 (row10 HX.out.2.2.1 HBl.out); have hsB : wB.heap.size ≤ wd.heap.size := Nat.le_trans HX.out.2.1.size HBl.out.size; clear hb8 hg8)
            | (at_builtin; refine wpList_append_at _ rfl (.tmp 119) (.tmp 121) 22 rfl wB.heap.size 46 io _ 7 104 Try.underlying22 hoi oz0 oz1 oz2 rfl (by decide) u10 l.length os rfl (HR10.out _) ⟨wd.heap.size, 0, none⟩ 1 1 [.int .i64 2, .string nm, .string tt, .int .i64 k, .slice da dn dc, .slice ca cn cc', .bool on] rfl rfl (World.news_of_block (Go.heap_alloc_new wd _)) (by simp [Value.oneCell']) (by unfold maxLen; omega) (by omega) (by simp; omega) ?_; intro v10 we hr3 hg3 ht3; have HR3 := hide2 hr3; have HG3 := hide2 hg3; have HT3 := hide2 ht3; have HR9 := hide2 (row9 HX.out.2.2.1 HBl.out hg3); have hsE : wB.heap.size ≤ we.heap.size := Nat.le_trans hsB (grown_alloc hg3).size; clear hr3 hg3 ht3)
            | (at_builtin; refine wpList_append_at _ rfl (.tmp 123) (.tmp 125) 44 rfl wB.heap.size 32 is (.slice none 0 0) 1 24 Try.underlying44 hsi sz0 sz1 sz2 rfl (by decide) u9 (l.length + 1) ss rfl (HR9.out _) ⟨we.heap.size, 0, none⟩ 1 1 [.slice a9 k c9] rfl rfl (World.news_of_block (Go.heap_alloc_new we _)) (by simp [Value.oneCell']) (by unfold maxLen; omega) (by omega) (by simp; omega) ?_; intro v9' wf hr4 hg4 ht4; have HR4 := hide2 hr4; have HG4 := hide2 hg4; have HT4 := hide2 ht4; clear hr4 hg4 ht4))
          exact ⟨⟨i + 1, by go_num, by omega, cut_end HO1.out HX.out.1 HX.out.2.1 HX.out.2.2.1 HBl.out HB9.out HR3.out HG3.out HT3.out HR4.out HG4.out HT4.out HBd.out (by omega) h5 h6 h7⟩, by simp [intOf]; omega⟩
      · have HW := hide2 (write_all (b0 := .int .i64 1) (b1 := .string nm) (b2 := .string tt) (b5 := .slice ca cn cc') (b6 := .bool on) (k := k) HOn.out HLo.out HBe.out HBg.out rfl HBd.out (by omega) (by rw [HHL.out]; exact hkL) (by omega))
        go_wp2_with fail
        go_region_held3 (fun w' => w'.cell? ⟨wr.heap.size, 3, none⟩ = some (.int .i64 k) ∧ w'.cell? ⟨wr.heap.size, 4, none⟩ = some (.slice da dn dc)) (go_keep) (first | (go_at_call 20; refine HW.out.mono ?_; rintro ex wx ⟨gx, ox, cx, rfl, p3, p4, hc⟩; have HW2 := hide2 hc; clear hc) | (go_at_call 19; refine HW2.out.mono ?_; rintro ex wc ⟨rfl, q3, q4, own1, hO1, hX⟩; have HO1 := hide2 hO1; have HX := hide2 hX; clear hO1 hX))
        clear HW HW2 f0 f1 f2 f3 f4 f5 f6
        go_wp2_with fail
        refine Calls.mono (over_any wc a8' L c8' (chgAll Base l) HHL.out HX.out.2.2.1.now.buf.has' HX.out.2.2.1.now.buf.1 hb8 (by omega) hm8 k hkL da dn dc dz HBd.out.len (HBd.out.has.of_below HX.out.2.1) HBd.out.oct HBd.out.bare HBd.out.fits HBd.out.cap dn (Nat.le_refl _) (by omega) (by omega)) ?_
        rintro ex wd ⟨v, rfl, hBv, hbl⟩
        obtain ⟨a9, M, c9, rfl, HB9⟩ := over_fin HBd.out.len hBv
        have HBl := hide2 hbl
        obtain ⟨g0, g1, g2, g5, g6⟩ := HX.out.2.2.2
        have y0 := cell_of_below hbl g0
        have y1 := cell_of_below hbl g1
        have y2 := cell_of_below hbl g2
        have y3 := cell_of_below hbl q3
        have y4 := cell_of_below hbl q4
        have y5 := cell_of_below hbl g5
        have y6 := cell_of_below hbl g6
        have HR10 := hide2 (row10 HX.out.2.2.1 HBl.out)
        have hsB : wB.heap.size ≤ wd.heap.size := Nat.le_trans HX.out.2.1.size HBl.out.size
        obtain ⟨io, hoi, oz0, oz1, oz2⟩ := info_parts Try.info46s
        have hlen40 : l.length ≤ 40 := by omega
        clear hBv hbl g0 g1 g2 g5 g6 q3 q4 p3 p4
        go_wp2_with (first
            | (at_builtin; refine wpList_append_at _ rfl (.tmp 119) (.tmp 121) 22 rfl wB.heap.size 46 io _ 7 104 Try.underlying22 hoi oz0 oz1 oz2 rfl (by decide) u10 l.length os rfl (HR10.out _) ⟨wd.heap.size, 0, none⟩ 1 1 [.int .i64 1, .string nm, .string tt, .int .i64 k, .slice da dn dc, .slice ca cn cc', .bool on] rfl rfl (World.news_of_block (Go.heap_alloc_new wd _)) (by simp [Value.oneCell']) (by unfold maxLen; omega) (by omega) (by simp; omega) ?_; intro v10 we hr3 hg3 ht3; have HR3 := hide2 hr3; have HG3 := hide2 hg3; have HT3 := hide2 ht3; have HR9 := hide2 (row9 HX.out.2.2.1 HBl.out hg3); have hsE : wB.heap.size ≤ we.heap.size := Nat.le_trans hsB (grown_alloc hg3).size; clear hr3 hg3 ht3)
            | (at_builtin; refine wpList_append_at _ rfl (.tmp 123) (.tmp 125) 44 rfl wB.heap.size 32 is (.slice none 0 0) 1 24 Try.underlying44 hsi sz0 sz1 sz2 rfl (by decide) u9 (l.length + 1) ss rfl (HR9.out _) ⟨we.heap.size, 0, none⟩ 1 1 [.slice a9 M c9] rfl rfl (World.news_of_block (Go.heap_alloc_new we _)) (by simp [Value.oneCell']) (by unfold maxLen; omega) (by omega) (by simp; omega) ?_; intro v9' wf hr4 hg4 ht4; have HR4 := hide2 hr4; have HG4 := hide2 hg4; have HT4 := hide2 ht4; clear hr4 hg4 ht4))
        exact ⟨⟨i + 1, by go_num, by omega, write_end HO1.out HX.out.1 HX.out.2.1 HX.out.2.2.1 HBl.out HB9.out HR3.out HG3.out HT3.out HR4.out HG4.out HT4.out HBd.out (by omega) h5 (by rw [HHL.out]; exact hkL) h6 h7⟩, by simp [intOf]; omega⟩
    · have hlt' : ¬ (i : Int) < nc := by omega
      obtain ⟨l, ss, os, N, own, h1, h2, h3, h4, h5, h6, h7⟩ := HL.out
      obtain ⟨a8', c8', e8, hb8, hh8, hf8, hm8⟩ := h4.now.buf.form
      obtain ⟨a10, c10, e10⟩ := own_slice h4.dn.row
      obtain ⟨L, hL⟩ : ∃ L, (chgAll Base l).length = L := ⟨_, rfl⟩
      obtain ⟨D, hD⟩ : ∃ D, l.length = D := ⟨_, rfl⟩
      rw [hL] at e8
      rw [hD] at e10
      subst e8
      subst e10
      have HRd := hide2 (one_read h1 (by omega) nm_f)
      have HOn := hide2 h1
      have HLo := hide2 h2
      have HBe := hide2 h3
      have HBg := hide2 h4
      clear h1 h2 h3 h4 hh8 HL
      go_wp2_with fail
      refine Calls.mono HRd.out ?_
      rintro e wa ⟨v, rfl, hB, hbl⟩
      obtain ⟨ar, cr, rfl, _, hhr, _⟩ := hB.form
      rw [hL] at hB ⊢
      have HOa := hide2 (HOn.out.below hbl)
      have HGa := hide2 (HBg.out.tr (tr_below hbl own))
      have HBa := hide2 (HBe.out.trans (hbl.mono HBe.out.size))
      have s1 := str_of wa ar L cr _ hL hhr
      have s2 := str_of wa a8' L c8' _ hL HGa.out.now.buf.has'
      have HLs := hide2 (one_loose HOa.out (by omega) nm_f)
      generalize hX : bstr (chgAll Base l) = X at s1 s2
      clear hX hB hbl hhr HRd HOn HBg HBe
      go_wp2_with fail
      refine Calls.mono HLs.out ?_
      rintro e wl ⟨v, rfl, hv, hbl⟩
      rw [hD] at hv
      subst hv
      have HOl := hide2 (HOa.out.below hbl)
      have HGl := hide2 (HGa.out.tr (tr_below hbl own))
      have HBl := hide2 (HBa.out.trans (hbl.mono HBa.out.size))
      clear hbl HLs HOa HGa HBa s1 s2
      obtain ⟨k, hk, hkD⟩ : ∃ k : Nat, rnd keep ((D : Int) + 1) = (k : Int) ∧ k ≤ D ∧ keptN l keep = k := by
        have := keptN_le l keep
        rw [hD] at this
        exact ⟨keptN l keep, this.2, this.1, rfl⟩
      go_wp2_with fail
      refine Calls.mono (round_any wl keep (D + 1) (by omega) (by omega) hkp) ?_
      rintro e wl ⟨rfl, rfl⟩
      rw [hk]
      obtain ⟨g9, c9, e9, _⟩ := HGl.out.st.row.form (by omega)
      rw [hD] at e9
      subst e9
      have hrow := HGl.out.st.row
      rw [hD] at hrow
      obtain ⟨vk, hvk, hbk⟩ := HGl.out.sts k (by omega)
      obtain ⟨ak, ck, ek, _⟩ := hbk.buf.form
      obtain ⟨nk, hnk⟩ : ∃ nk, (chgAll Base (l.take k)).length = nk := ⟨_, rfl⟩
      rw [hnk] at ek
      subst ek
      have ck9 : wl.cell? ⟨g9, k, none⟩ = some (.slice ak nk ck) := (hrow.cellAt k (by omega)).trans hvk
      have HBk := hide2 hbk
      have k0 : (0 : Int) ≤ k := by omega
      have k1 : (k : Int) < (D : Int) + 1 := by omega
      clear hrow hvk hbk hk
      by_cases hkd : k < D
      · have hkd' : (k : Int) < D := by omega
        obtain ⟨c, hc⟩ : ∃ c, l[k]? = some c := ⟨l[k]'(by omega), List.getElem?_eq_getElem _⟩
        obtain ⟨kd, nn, da, dn, dc, dz, hdo⟩ := HGl.out.ds k c hc
        have hrd := HGl.out.dn.row
        rw [hD] at hrd
        obtain ⟨g10, c10', e10, _⟩ := hrd.form (by omega)
        cases e10
        have d0 : wl.cell? ⟨g10, k * 7, none⟩ = some (.int .i64 kd) := by rw [hrd.cellAt (k * 7) (by omega), Nat.mul_comm]; exact hdo.kd_
        have d3 : wl.cell? ⟨g10, k * 7 + 3, none⟩ = some (.int .i64 nn) := by rw [hrd.cellAt (k * 7 + 3) (by omega), Nat.mul_comm]; exact hdo.nn_
        have d4 : wl.cell? ⟨g10, k * 7 + 4, none⟩ = some (.slice da dn dc) := by rw [hrd.cellAt (k * 7 + 4) (by omega), Nat.mul_comm]; exact hdo.da_
        have HBd := hide2 hdo.bin
        have hdn := hdo.few
        have his := hdo.is
        clear hrd hdo
        rcases his with ⟨rfl, at_, rfl, rfl⟩ | ⟨rfl, q, rfl, rfl⟩
        · have hok := beg_ok HOl.out.small hc
          rw [hnk] at hok
          obtain ⟨r, hr, hrn⟩ : ∃ r : Nat, rnd torn ((dn : Int) + 1) = (r : Int) ∧ r ≤ dn := by
            have := rnd_range torn ((dn : Int) + 1) (by omega)
            exact ⟨(rnd torn ((dn : Int) + 1)).toNat, by omega, by omega⟩
          have HRt := hide2 (round_any wl torn ((dn : Int) + 1) (by omega) (by omega) htn)
          rw [hr] at HRt
          go_wp2_with fail
          refine Calls.mono HRt.out ?_
          rintro e wl ⟨rfl, rfl⟩
          have HV := hide2 (over_all (r := r) HBk.out HBl.out HBd.out (fun k hk => HOl.out.lt hk) hnk hok.1 hok.2 hdn hrn d3 d4)
          go_wp2_with fail
          go_region_held3 (fun w' => w'.cell? ⟨g10, k * 7 + 3, none⟩ = some (.int .i64 at_) ∧ w'.cell? ⟨g10, k * 7 + 4, none⟩ = some (.slice da dn dc)) (go_keep) (first | (go_at_call 23; refine HV.out.mono ?_; rintro ex wz ⟨a16, n16, c16, rfl, z3, z4, hz1, hz2⟩; have HZ1 := hide2 hz1; have HZ2 := hide2 hz2; clear hz1 hz2))
          have HTl := hide2 (tail_beg (keep := keep) (torn := torn) (HOl.out.below HZ2.out) HLo.out (HBl.out.trans (HZ2.out.mono HBl.out.size)) HZ1.out (by unfold begun; rw [hkD.2, hc]; simp only [HBd.out.len, hr]; simp) (by omega) hkp htn)
          clear HV z3 z4 d0 d3 d4 ck9
          go_wp2_with fail
          refine Calls.mono HTl.out ?_
          rintro e wm ⟨rfl, hc⟩
          have HT2 := hide2 hc
          clear hc HTl
          go_wp2_with fail
          refine Calls.mono HT2.out ?_
          rintro e wn ⟨rfl, hc⟩
          have HT3 := hide2 hc
          clear hc HT2
          go_wp2_with fail
          refine Calls.mono HT3.out ?_
          rintro e wo ⟨ar, nr, cr, Y, rfl, s1, s2, hc⟩
          have HT4 := hide2 hc
          clear hc HT3
          go_wp2_with fail
          refine Calls.mono HT4.out ?_
          rintro e wp ⟨rfl, hbl⟩
          have HBL := hide2 hbl
          clear hbl HT4 s1 s2
          go_wp2_with fail
          all_goals (go_ret; exact fin_all HBW HBL)
        · have HTl := hide2 (tail_beg (keep := keep) (torn := torn) HOl.out HLo.out HBl.out HBk.out (by unfold begun; rw [hkD.2, hc]) (by omega) hkp htn)
          go_wp2_with fail
          refine Calls.mono HTl.out ?_
          rintro e wm ⟨rfl, hc⟩
          have HT2 := hide2 hc
          clear hc HTl
          go_wp2_with fail
          refine Calls.mono HT2.out ?_
          rintro e wn ⟨rfl, hc⟩
          have HT3 := hide2 hc
          clear hc HT2
          go_wp2_with fail
          refine Calls.mono HT3.out ?_
          rintro e wo ⟨ar, nr, cr, Y, rfl, s1, s2, hc⟩
          have HT4 := hide2 hc
          clear hc HT3
          go_wp2_with fail
          refine Calls.mono HT4.out ?_
          rintro e wp ⟨rfl, hbl⟩
          have HBL := hide2 hbl
          clear hbl HT4 s1 s2
          go_wp2_with fail
          all_goals (go_ret; exact fin_all HBW HBL)
      · have hkd' : ¬ (k : Int) < D := by omega
        have HTl := hide2 (tail_beg (keep := keep) (torn := torn) HOl.out HLo.out HBl.out HBk.out (by unfold begun; rw [hkD.2, List.getElem?_eq_none (by omega)]) (by omega) hkp htn)
        go_wp2_with fail
        refine Calls.mono HTl.out ?_
        rintro e wm ⟨rfl, hc⟩
        have HT2 := hide2 hc
        clear hc HTl
        go_wp2_with fail
        refine Calls.mono HT2.out ?_
        rintro e wn ⟨rfl, hc⟩
        have HT3 := hide2 hc
        clear hc HT2
        go_wp2_with fail
        refine Calls.mono HT3.out ?_
        rintro e wo ⟨ar, nr, cr, Y, rfl, s1, s2, hc⟩
        have HT4 := hide2 hc
        clear hc HT3
        go_wp2_with fail
        refine Calls.mono HT4.out ?_
        rintro e wp ⟨rfl, hbl⟩
        have HBL := hide2 hbl
        clear hbl HT4 s1 s2
        go_wp2_with fail
        all_goals (go_ret; exact fin_all HBW HBL)
end Go.Proofs.Ytkmohpdcchpndaa

/-
  Whatever bytes, changes and choices are handed in: behind a failure a file has what was synced, and a beginning of what was done since; no condition.
-/
namespace Go.Proofs.Ytkmohpdcchpndaa
open Go.ChangeShapes Go.WideShapes Go.ChangeAt Go.RowKit Go.ChangeMaps
set_option linter.unusedVariables false
set_option linter.unusedSimpArgs false
theorem InB.bin' {W : World} {v : Value} {a : Option Addr} {n c : Nat} {zs : List Int} (h : InB W v a n c zs) : Bin W a n c zs := ⟨h.len, h.has, h.oct, h.bare, h.fits, h.cap⟩
theorem pick_list {α : Type} (R : Nat → α → Prop) : ∀ n, (∀ i, i < n → ∃ s, R i s) → ∃ ss : List α, ss.length = n ∧ ∀ (i : Nat) (s : α), ss[i]? = some s → R i s
  | 0, _ => ⟨[], rfl, fun i s h => by simp at h⟩
  | n + 1, h => by
    obtain ⟨ss, h1, h2⟩ := pick_list R n (fun i hi => h i (by omega))
    obtain ⟨s, hs⟩ := h n (by omega)
    refine ⟨ss ++ [s], by simp [h1], fun i t ht => ?_⟩
    by_cases hi : i < n
    · rw [List.getElem?_append_left (by omega)] at ht; exact h2 i t ht
    · have hlt := (List.getElem?_eq_some_iff.1 ht).1
      simp at hlt
      obtain rfl : i = n := by omega
      rw [List.getElem?_append_right (by omega)] at ht
      simp [h1] at ht
      rw [← ht]; exact hs
theorem seven {α : Type} {cs : List α} (h : cs.length = 7) : ∃ c0 c1 c2 c3 c4 c5 c6, cs = [c0, c1, c2, c3, c4, c5, c6] := by
  match cs, h with
  | [c0, c1, c2, c3, c4, c5, c6], _ => exact ⟨c0, c1, c2, c3, c4, c5, c6, rfl⟩
/-- bytes, opened: their sizes aside -/
theorem open_bin {H : Type} {enc : TypeId × Value → H} {W : World} {fuel : Nat} {v : Value} {y : DataW H × List MemPlace}
    (hf : DataW.trod enc Try.prog W 0 (fun _ => true) true fuel 32 [v] = some y) : ∃ a len cap zs, v = .slice a len cap ∧ Bin W a len cap zs := by
  rcases open_ints Try.underlying32 Try.underlying5 (by kernel_rfl) hf with ⟨hcs, _⟩ | ⟨x, l, c, zs, hcs, _, hl, hm, hz, hx, hcell, hwz⟩
  · simp at hcs
    exact ⟨none, 0, 0, [], hcs, rfl, .inl ⟨rfl, rfl⟩, fun j => by simp, fun _ => rfl, Nat.le_refl _, Nat.zero_le _⟩
  · simp at hcs
    have hzl : zs.length = c := by simpa using hz
    refine ⟨some x, l, c, zs.take l, hcs, by simp; omega, ?_, (octets_of_wf hwz).take l, (fun h => by cases h), hl, hm⟩
    refine .inr ⟨x, rfl, fun j hj => ?_⟩
    have hj' : j < l := by simp at hj; omega
    rw [hcell j (by omega)]; simp [List.getD, hj']
theorem open_op {H : Type} {enc : TypeId × Value → H} {W : World} {fuel : Nat} {cs : List Value} {y : DataW H × List MemPlace} (hf : DataW.trod enc Try.prog W 0 (fun _ => true) true fuel 46 cs = some y) :
    ∃ o : Ox, cs = o.cells.toList ∧ Bin W o.a o.n o.cap o.zs ∧ -9223372036854775808 ≤ o.nn ∧ o.nn ≤ 9223372036854775807 := by
  obtain ⟨xs, n, _, hx, hl, hlen, hff⟩ := DataW.trod_struct Try.underlying46 hf
  have hc : Try.prog.cellsOf 46 = 7 := by kernel_rfl
  have c3 : Try.prog.cellsOf 3 = 1 := by kernel_rfl
  have c9 : Try.prog.cellsOf 9 = 1 := by kernel_rfl
  have c32 : Try.prog.cellsOf 32 = 1 := by kernel_rfl
  have c23 : Try.prog.cellsOf 23 = 1 := by kernel_rfl
  have c4 : Try.prog.cellsOf 4 = 1 := by kernel_rfl
  rw [hc] at hl
  obtain ⟨a0, a1, a2, a3, a4, a5, a6, rfl⟩ := seven hl
  match xs, hlen with
  | [y0, y1, y2, y3, y4, y5, y6], _ =>
    have t0 := hff 0 _ rfl
    have t1 := hff 1 _ rfl
    have t2 := hff 2 _ rfl
    have t3 := hff 3 _ rfl
    have t4 := hff 4 _ rfl
    have t5 := hff 5 _ rfl
    have t6 := hff 6 _ rfl
    simp [c3, c9, c32, c23, c4] at t0 t1 t2 t3 t4 t5 t6
    obtain ⟨kd, e0, _, w0⟩ := DataW.trod_int Try.underlying3 t0
    obtain ⟨nm, e1, _, w1⟩ := DataW.trod_string Try.underlying9 t1
    obtain ⟨tt, e2, _, w2⟩ := DataW.trod_string Try.underlying9 t2
    obtain ⟨nn, e3, _, w3⟩ := DataW.trod_int Try.underlying3 t3
    obtain ⟨a, len, cap, zs, e4, hB⟩ := open_bin t4
    have e5 : ∃ ca cn cc, a5 = .slice ca cn cc := by
      rcases open_ints Try.underlying23 Try.underlying3 (by kernel_rfl) t5 with ⟨h, _⟩ | ⟨x, l, c, _, h, _⟩
      · simp at h; exact ⟨_, _, _, h⟩
      · simp at h; exact ⟨_, _, _, h⟩
    obtain ⟨ca, cn, cc, rfl⟩ := e5
    obtain ⟨on, e6, _⟩ := DataW.trod_bool Try.underlying4 t6
    have b3 := bounds_i64 w3
    simp at e0 e1 e2 e3 e6
    subst e0 e1 e2 e3 e4 e6
    exact ⟨⟨kd, nm, tt, nn, a, len, cap, zs, ca, cn, cc, on⟩, rfl, hB, b3.1, (by omega : nn ≤ 9223372036854775807)⟩
theorem open_ops {H : Type} {enc : TypeId × Value → H} {W : World} {fuel : Nat} {v : Value} {y : DataW H × List MemPlace} {ts : List TypeId} {ds : List (DataW H)} {j : Nat}
    (hf : DataW.trod enc Try.prog W 0 (fun _ => true) true fuel 22 [v] = some y) (hsz : (DataW.weightsEach Try.prog ts ds).all (· ≤ reachBytes) = true) (ht : ts[j]? = some 22) (hd : ds[j]? = some y.1) :
    ∃ a len cap, v = .slice a len cap ∧ len ≤ 140737488351232 ∧ ∃ os : List Ox, os.length = len ∧ LO W a os := by
  rcases DataW.trod_slice Try.underlying22 hf with ⟨hcs, hx⟩ | ⟨x, l, c, elems, rest, n, _, hcs, hx, _, hl, hm, hlen, hel, _⟩
  · simp at hcs
    exact ⟨none, 0, 0, hcs, by omega, [], rfl, ⟨fun s h => (by cases h), fun s h => (by cases h), .inl rfl⟩⟩
  · simp at hcs
    subst hx
    have hs := sized_slice hsz (j := j) (t := 22) (e := 46) ht hd Try.underlying22
    have b46 : Try.prog.bytesOf 46 = 104 := by kernel_rfl
    rw [b46] at hs
    simp only [List.length_map, reachBytes] at hs
    have c46 : Try.prog.cellsOf 46 = 7 := by kernel_rfl
    rw [c46] at hel
    have each : ∀ i, i < l → ∃ o : Ox, W.cells? 0 (x.add (i * 7)) 7 = some o.cells.toList ∧ Bin W o.a o.n o.cap o.zs ∧ -9223372036854775808 ≤ o.nn ∧ o.nn ≤ 9223372036854775807 := by
      intro i hi
      have he := hel i hi
      obtain ⟨e, hee⟩ : ∃ e, elems[i]? = some e := ⟨elems[i]'(by omega), List.getElem?_eq_getElem _⟩
      rw [hee, Option.bind_eq_some_iff] at he
      obtain ⟨cs', hcs', hy⟩ := he
      obtain ⟨o, rfl, hB⟩ := open_op hy
      exact ⟨o, hcs', hB⟩
    obtain ⟨os, hsl, hss⟩ := pick_list _ l each
    refine ⟨some x, l, c, hcs, by omega, os, hsl, ⟨fun s hs => ?_, fun s hs => ?_, ?_⟩⟩
    · obtain ⟨i, hi⟩ := List.getElem?_of_mem hs
      exact (hss i s hi).2.1
    · obtain ⟨i, hi⟩ := List.getElem?_of_mem hs
      exact (hss i s hi).2.2
    · by_cases h0 : os = []
      · exact .inl h0
      · have hp : 0 < os.length := List.length_pos_iff.2 h0
        have hcell : ∀ (i : Nat) (s : Ox), os[i]? = some s → ∀ (j : Nat) (u : Value), s.cells[j]? = some u → W.cell? ((x.add (i * 7)).add j) = some u := fun i s hi j u hu => by
          have hh := (hss i s hi).1
          have hj : j < 7 := by have := (Array.getElem?_eq_some_iff.1 hu).1; simpa [Ox.cells] using this
          have := (World.cells?_some hh).2.2 j hj
          rw [this]; simpa using hu
        have hspot : x.spot = none := by
          have := hcell 0 os[0] (List.getElem?_eq_getElem hp) 0 _ rfl
          have := World.cell?_spot this
          simpa [Addr.add] using this
        obtain ⟨b, off, spot⟩ := x
        subst hspot
        refine .inr ⟨b, off, rfl, fun i s hi j u hu => ?_⟩
        have := hcell i s hi j u hu
        rwa [Go.WideShapes.add_plain, Go.WideShapes.add_plain] at this
set_option maxRecDepth 100000 in
theorem diskBegins_lifted (os : Os) (started : os.Started) (H : Type) (enc : TypeId × Value → H) :
    ReturnsInHanded {} Try.checked os 4 .any (Rows.diskBeginsSpec.pre6 enc Try.prog Try.f4 Rows.diskBeginsRow.domain false) (Rows.diskBeginsSpec.post enc Try.prog Try.f4 false true false false) := by
  refine returnsInHanded_of_change_sized (C := Try.checked) own started (by kernel_rfl) Try.func4
    (ChangeSpec.witness6 (enc := enc) (C := Try.checked) false ⟨#[], #[.agg #[.slice none 0 0, .slice none 0 0, .int .i64 0, .int .i64 0]], []⟩ 8 (by kernel_rfl) (by kernel_rfl) (by kernel_rfl) (by kernel_rfl)) ?_
  intro W base args ds gs before hval0 hW _ hsz0 _
  have hsz : (DataW.weightsEach Try.prog (Try.f4.params.toList ++ Rows.diskBeginsSpec.plain.varTypes Try.prog) (ds ++ gs)).all (· ≤ reachBytes) = true := hsz0
  clear hsz0
  have hval : ∀ (j : Nat) t v, Try.f4.params[j]? = some t → args[j]? = some v → Value.okWide Try.prog W .any base t v := hval0
  have hW' := hW
  obtain ⟨p, q, hA0, hV, rfl, hfz, hnd⟩ := hW
  have hA : DataW.TrodAll enc Try.prog W 0 (fun _ => true) true Try.f4.params.toList args.toList ds p := hA0
  rw [Try.params4] at hA hval hsz
  obtain ⟨v0, vs0, d0, ds0, p0, q0, hargs, rfl, rfl, h0, r0⟩ := trodAll_cons hA
  obtain ⟨rfl, rfl, rfl⟩ := trodAll_nil r0
  obtain rfl : args = #[v0] := by cases args; simp_all
  obtain ⟨rfl, rfl⟩ := trodVars_none hV
  have k0 := h0
  have lt0 : ∀ x ∈ p0, x.block < W.heap.size := by obtain ⟨m, hm⟩ := k0; exact DataW.trod_lt m _ _ _ hm
  obtain ⟨u0, u1, u2, u3, y0, y1, y2, y3, m, rfl, rfl, _, g0, g1, g2, g3⟩ := Go.Joins.open_agg4 Try.underlying39 (by kernel_rfl) (by kernel_rfl) (hval 0 39 v0 rfl rfl) h0
  have hs4 : (DataW.weightsEach Try.prog [32, 22, 3, 3] [y0.1, y1.1, y2.1, y3.1]).all (· ≤ reachBytes) = true := by
    rw [List.all_eq_true] at hsz ⊢
    intro n hn
    refine hsz n ?_
    exact DataW.weights_mem_each (j := 0) (t := 39) (d := .agg [y0.1, y1.1, y2.1, y3.1]) rfl rfl n (by rw [DataW.weights, Try.underlying39]; exact hn)
  obtain ⟨ab, nb, cb, Base, B0⟩ := open_bytes g0 (j := 0) hs4 rfl rfl
  obtain ⟨ac, nc, cc, e1, hnc, ops, hol, hlo⟩ := open_ops g1 (j := 1) hs4 rfl rfl
  obtain ⟨keep, e2, _, w2⟩ := DataW.trod_int Try.underlying3 g2
  obtain ⟨torn, e3, _, w3⟩ := DataW.trod_int Try.underlying3 g3
  have b2 := bounds_i64 w2
  have b3 := bounds_i64 w3
  obtain rfl := B0.val
  subst e1
  obtain rfl : u2 = .int .i64 keep := by simpa using e2
  obtain rfl : u3 = .int .i64 torn := by simpa using e3
  clear hA0 hval0
  have f0 := B0.few
  have t0 := B0.fits
  refine (begins_any W ab nb cb Base ac nc cc ops keep torn B0.bin' hlo hol ⟨b2.1, by omega⟩ ⟨b3.1, by omega⟩ (by omega) hnc).mono fun e W' ⟨he, bel⟩ => ?_
  subst he
  exact ⟨_, rfl, _, _, _, [], _, [], hW', trodAll_mk1 (shut_bool Try.underlying4 _), (trodAll_cons_mk (Below.trod laidOut (by kernel_rfl) (of_decide_eq_true (by kernel_rfl)) k0 bel lt0) trodAll_mk0), rfl, bel.frame _, fun h => by cases h⟩

theorem diskBegins_holds : Rows.DiskBeginsSaid :=
  OpenClaim.holds_of_wide 4 Try.f4 rfl rfl rfl rfl rfl rfl rfl ⟨rfl, rfl, rfl, rfl, rfl⟩ rfl rfl rfl rfl rfl (by kernel_rfl) Try.func4 (by kernel_rfl)
    (of_decide_eq_true (by kernel_rfl)) (by unfold Func.isWrapper; first | (rw [if_pos (by decide +kernel)]; kernel_rfl) | (rw [if_neg (by decide +kernel)]; exact ⟨rfl, rfl⟩))
    (fun os started H enc _ => diskBegins_lifted os started H enc)
#print axioms diskBegins_holds
end Go.Proofs.Ytkmohpdcchpndaa
