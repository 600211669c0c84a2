import Derived.Test.YtkmohpdcchpndaaBndG
/-
  A disk and what it says: a new one; the power fails; an operation ends.
-/
namespace Go.Proofs.Ytkmohpdcchpndaa
open Go.RowKit Go.Maps
set_option linter.unusedVariables false
set_option linter.unusedSimpArgs false
set_option maxRecDepth 100000
theorem mid_size : ∀ {l : List Ld} {b z : Option (DataW Unit)}, Rd b l z → (∀ D, b = some D → Tidy D) → z.elim 0 Go.Maps.size ≤ b.elim 0 Go.Maps.size + l.length
  | [], b, z, h, _ => by cases h; exact Nat.le_refl _
  | c :: r, b, z, h, hT => by
    have put1 : ∀ (D : DataW Unit), Tidy D → ∀ (k : Lit) (v : DataW Unit), Go.Maps.size (D.put k v) ≤ Go.Maps.size D + 1 := fun D hD k v => by
      rw [size_put hD]; split <;> omega
    have del1 : ∀ (D : DataW Unit), Tidy D → ∀ (k : Lit), Go.Maps.size (D.del k) ≤ Go.Maps.size D := fun D hD k => by
      have := size_del (k := k) hD; omega
    have step : (c.c.do b).elim 0 Go.Maps.size ≤ b.elim 0 Go.Maps.size + 1 ∧ ∀ D, c.c.do b = some D → Tidy D := by
      cases hc : c.c with
      | nm n k =>
        cases b with
        | none =>
          have := put1 (.map []) tidy_empty (keyOf n) (.lit (.int .i64 k))
          exact ⟨this, fun D e => by cases e; exact tidy_empty.put (by trivial) _⟩
        | some D0 =>
          have := put1 D0 (hT D0 rfl) (keyOf n) (.lit (.int .i64 k))
          exact ⟨this, fun D e => by cases e; exact (hT D0 rfl).put (by trivial) _⟩
      | rn f t k =>
        cases b with
        | none => exact ⟨Nat.zero_le _, fun D e => by cases e⟩
        | some D0 =>
          have h1 := del1 D0 (hT D0 rfl) (keyOf f)
          have hT1 : Tidy (D0.del (keyOf f)) := (hT D0 rfl).del _
          have h2 := put1 (D0.del (keyOf f)) hT1 (keyOf t) (.lit (.int .i64 k))
          refine ⟨?_, fun D e => by cases e; exact hT1.put (by trivial) _⟩
          show Go.Maps.size ((D0.del (keyOf f)).put (keyOf t) (.lit (.int .i64 k))) ≤ Go.Maps.size D0 + 1
          omega
      | rm n =>
        cases b with
        | none => exact ⟨Nat.zero_le _, fun D e => by cases e⟩
        | some D0 =>
          have h1 := del1 D0 (hT D0 rfl) (keyOf n)
          refine ⟨?_, fun D e => by cases e; exact (hT D0 rfl).del _⟩
          show Go.Maps.size (D0.del (keyOf n)) ≤ Go.Maps.size D0 + 1
          omega
    have := mid_size (l := r) h.2 step.2
    simp only [List.length_cons]
    omega
theorem Dm.tidy {w : World} {base : Nat} {mv : Value} {od : Option (DataW Unit)} {n : Nat} (h : Dm w base mv od n) : ∀ D, od = some D → Tidy D := by
  rcases h with ⟨_, rfl⟩ | ⟨m, D, _, rfl, _, _, ht⟩
  · intro D e; cases e
  · intro D' e; cases e; exact ht
theorem RepX.few {w : World} {base d : Nat} {s : DS} {N : Nat} {x : Dr} {am : Option Am} {fo : Option (DataW Unit)} {nf : Nat} {es : List En} {lab : Nat → Nat} (h : RepX w base d s N x am fo nf es lab) {cs : List Int} {z : Option (DataW Unit)} {i : Nat} (hz : DLasts x cs 0 z i) : z.elim 0 Go.Maps.size ≤ N := by
  obtain ⟨k, _, hk, hr, _⟩ := hz
  have h1 := mid_size hr h.dk.dir.last.tidy
  have h2 := dm_size h.dk.dir.last
  have h3 := h.b3
  have h4 : (x.ls.take k).length ≤ x.ls.length := by simp; omega
  omega
/-- behind a failure -/
theorem RepX.crashed {w w' : World} {base d : Nat} {s : DS} {N : Nat} {x x' : Dr} {am : Option Am} {fo : Option (DataW Unit)} {nf nf' : Nat} {es es' : List En} {lab lab' : Nat → Nat} (h : RepX w base d s N x am fo nf es lab) {cs : List Int} {D' : DataW Unit} {i1 i2 : Nat} (hc : Crashed w w' base d x am es s.made cs x' D' nf' es' lab' i1 i2) :
    RepX w' base d (crashS s cs) N x' none (some D') nf' es' lab' ∧ Fr w w' (dall d x am es) (dall d x' none es') := by
  have hsz := h.few hc.dir
  obtain ⟨k, hk, hkl, hr, hi⟩ := hc.dir
  have hlen : x.ls.length = s.dc.length := by rw [← h.dc]; simp
  have hkk : (chosen cs 0 s.dc.length).toNat = k := by rw [← hlen]; omega
  have hg : DRel x'.last (dirAll s.dl (s.dc.take (chosen cs 0 s.dc.length).toNat)) := by
    have := rd_rel hr h.dk.dir.last.isMap h.dl
    rw [List.map_take, h.dc] at this
    rw [hkk]; exact this
  have hnow := hc.now
  have hgn : DRel x'.now (dirAll s.dl (s.dc.take (chosen cs 0 s.dc.length).toNat)) := by rw [hnow]; exact hg
  have hnm : namesOf (dirAll s.dl (s.dc.take (chosen cs 0 s.dc.length).toNat)) = namesL x'.now := namesOf_eq (namesL_is hc.dk.dir.now hgn (fun nm num hh => by obtain ⟨e, _, e1⟩ := hc.dk.named nm num hh; exact ⟨e.num, e1⟩))
  have hfl := fail_eq hgn hc.fil (fl := s.fl) (fun e he => h.fl e (mem_named.1 he).1)
  rw [hi, ← hnm] at hfl
  have hls := failseq_ls hc.fil
  refine ⟨⟨hc.dk, hc.c0.trans h.c0, hc.c1, rfl, hg, by rw [hc.ls]; rfl, hgn, hfl.1, h.b1, ?_, ?_, ?_, ?_, ?_, h.b6, Nat.le_trans h.b7 hc.kt.size⟩, fr_of hc.kt fun j hj => ?_⟩
  · have h1 := hc.nf
    rw [hnow] at h1
    exact Nat.le_trans h1 hsz
  · rw [hc.ls]
    have := hc.bl; have := h.b3
    simp; omega
  · rw [hc.bn]
    have := hc.bl; have := h.b3
    omega
  · intro e he
    rcases hls e he with h' | h'
    · exact h.b5 e (mem_named.1 h').1
    · rw [h']; simp
  · exact failF_ok h.fok
  · rcases hj with ⟨c, hc', _⟩ | ⟨e, he, c, hc', hj⟩ | ⟨a, ha, _⟩
    · rw [hc.ls] at hc'; cases hc'
    · rcases hls e he with h' | h'
      · exact .inl (.inr (.inr (.inl ⟨e, (mem_named.1 h').1, c, hc', hj⟩)))
      · rw [h'] at hc'; cases hc'
    · cases ha
/-- choices that are handed in, beside the disk -/
structure Chs (w : World) (own : Nat → Prop) (a : Option Addr) (n cap : Nat) (cs : List Int) : Prop where
  len : cs.length = n
  nrs : ∃ gl, Nrs w a cs gl ∧ ∀ k ∈ gl, k < w.heap.size ∧ ¬ own k
  bare : a = none → cap = 0 ∧ cs = []
  rng : ∀ c ∈ cs, -9223372036854775808 ≤ c ∧ c ≤ 9223372036854775807
  few : cs.length ≤ 17592186044000
theorem crash_rep (w : World) (base d : Nat) (s : DS) (N : Nat) (own : Nat → Prop) (h : Rep w base d s N own) (hN : N < 1000000) (hup : s.down = false) (a : Option Addr) (n cap : Nat) (cs : List Int) (hc : Chs w own a n cap cs) :
    Calls Try.prog 13 #[.pointer (some ⟨d, 0, none⟩), .slice a n cap] w fun e w' => e = .returned (.tuple #[]) ∧ ∃ own', Rep w' base d (crashS s cs) N own' ∧ Fr w w' own own' := by
  obtain ⟨x, am, fo, nf, es, lab, hx, rfl⟩ := h
  obtain ⟨gl, hN1, hgl⟩ := hc.nrs
  have dk2 : Dk w base d x am fo nf s.made es (open Classical in fun k => if dall d x am es k then lab k else 3) := hx.dk.relabAll fun k hk => by simp [hk]
  have hb1 := hx.b1; have hb3 := hx.b3
  refine (crash_any w base d x am fo nf s.made es _ dk2 (by rw [hx.c1, hup]) a n cap cs gl hc.len hN1 (fun k hk => ⟨by simp [(hgl k hk).2], (hgl k hk).1⟩) hc.rng hc.few (fun e he => by have := hx.b5 e he; omega) (by omega) (by omega) (by omega) (fun z i hz => by have := hx.few hz; omega) hx.b7).mono ?_
  rintro e w' ⟨rfl, x', D', nf', es', lab', i1, i2, hC⟩
  obtain ⟨r1, r2⟩ := hx.crashed hC
  exact ⟨rfl, _, ⟨x', none, some D', nf', es', lab', r1, rfl⟩, r2⟩
def tickS (s : DS) : DS := { s with arm := s.arm.map fun p => (p.1 - 1, p.2) }
/-- the end of an operation -/
noncomputable def finS (s : DS) : Int × DS :=
  match s.arm with
  | some (0, cs) => (32, crashS s cs)
  | _ => (0, tickS s)
theorem finS_none {s : DS} (h : s.arm = none) : finS s = (0, s) := by
  cases s
  simp only at h
  subst h
  rfl
theorem done_rep (w : World) (base d : Nat) (s : DS) (N : Nat) (x : Dr) (am : Option Am) (fo : Option (DataW Unit)) (nf : Nat) (es : List En) (lab : Nat → Nat) (hx : RepX w base d s N x am fo nf es lab) (hN : N < 1000000) (hup : s.down = false) :
    Ans 34 #[.pointer (some ⟨d, 0, none⟩)] w fun v w' => v = (finS s).1 ∧ ∃ own', Rep w' base d (finS s).2 N own' ∧ Fr w w' (dall d x am es) own' := by
  have hb1 := hx.b1; have hb3 := hx.b3
  have harm := hx.arm
  cases am with
  | none =>
    have hs : s.arm = none := harm.symm
    rw [finS_none hs]
    refine (done_on w base d x none fo nf s.made es lab hx.dk rfl).mono ?_
    rintro v w' ⟨rfl, hd, hk⟩
    exact ⟨rfl, _, ⟨x, none, fo, nf, es, lab, { hx with dk := hd, b7 := Nat.le_trans hx.b7 hk.size }, rfl⟩, fr_of hk fun k hk => .inl (.inr hk)⟩
  | some a =>
    have hs : s.arm = some (a.after, a.cs) := harm.symm
    by_cases h0 : a.after = 0
    · have e : finS s = (32, crashS s a.cs) := by unfold finS; rw [hs, h0]; rfl
      rw [e]
      refine (done_off w base d x a fo nf s.made es lab hx.dk (by simp [goesB, h0]) (by rw [hx.c1, hup]) (fun e he => by have := hx.b5 e he; omega) (by omega) (by omega) (by omega) (fun z i hz => by have := hx.few hz; omega) hx.b7).mono ?_
      rintro v w' ⟨rfl, x', D', nf', es', lab', i1, i2, hC⟩
      obtain ⟨r1, r2⟩ := hx.crashed hC
      exact ⟨rfl, _, ⟨x', none, some D', nf', es', lab', r1, rfl⟩, r2⟩
    · have e : finS s = (0, tickS s) := by
        unfold finS; rw [hs]
        obtain ⟨q, hq⟩ : ∃ q, a.after = q + 1 := ⟨a.after - 1, by omega⟩
        rw [hq]; rfl
      rw [e]
      refine (done_on w base d x (some a) fo nf s.made es lab hx.dk (by simp [goesB, h0])).mono ?_
      rintro v w' ⟨rfl, hd, hk⟩
      refine ⟨rfl, _, ⟨x, tick (some a), fo, nf, es, lab, { hx with dk := hd, arm := ?_, b7 := Nat.le_trans hx.b7 hk.size }, rfl⟩, fr_of hk fun k hk => .inl (.inr ?_)⟩
      · show (tick (some a)).map _ = s.arm.map _
        rw [hs]; rfl
      · rcases hk with h' | h' | ⟨a', ha', hj⟩
        · exact .inl h'
        · exact .inr (.inl h')
        · cases ha'
          exact .inr (.inr ⟨a, rfl, hj⟩)
/-- a new disk -/
def newS (room : Nat) : DS := ⟨room, false, none, fun _ => none, [], fun _ => none, fun _ => ⟨[], [], []⟩, 0⟩
theorem new_rep (room : Int) (w : World) (hr : room ≤ 9223372036854775807) : Calls Try.prog 17 #[.int .i64 room] w fun e w' => e = .returned (.pointer (some ⟨w.heap.size, 0, none⟩)) ∧ ∃ own, Rep w' w.heap.size w.heap.size (newS room.toNat) 0 own ∧ Below w.heap.size w w' ∧ ∀ k, own k → w.heap.size ≤ k := by
  refine (new_any room w).mono ?_
  rintro e w' ⟨rfl, rfl⟩
  have hK : max room 0 = ((room.toNat : Nat) : Int) := by omega
  refine ⟨rfl, _, ⟨⟨.int .i64 (max room 0), .bool false, .pointer none, .map none, .slice none 0 0, .map none, .map none, .int .i64 0, none, 0, [], none, 0⟩, none, none, 0, [], fun _ => 0, ⟨?_, by show Value.int .i64 (max room 0) = _; rw [hK]; rfl, rfl, rfl, fun nm num => ⟨fun ⟨D, e, _⟩ => (by cases e), fun ⟨k, e, _⟩ => (by cases e)⟩, rfl, fun nm num => ⟨fun ⟨D, e, _⟩ => (by cases e), fun ⟨k, e, _⟩ => (by cases e)⟩, fun e he => (by cases he), Nat.le_refl _, Nat.le_refl _, Nat.le_refl _, Nat.le_refl _, fun e he => (by cases he), fun n => ⟨by show 0 ≤ 1048576; omega, rfl⟩, by show room.toNat ≤ _; omega, by simp⟩, rfl⟩, (Below.refl _ _).alloc (Nat.le_refl _) _, fun k hk => ?_⟩
  · refine ⟨⟨Go.heap_alloc_new w _, Nat.le_refl _, .inl ⟨rfl, rfl⟩, .inl ⟨rfl, rfl⟩, ⟨rfl, .inl ⟨rfl, rfl⟩⟩, fun c hc => (by cases hc), by simp [Dr.mut, mblk, Value.ownBlock], fun c hc => (by cases hc)⟩, rfl, .inl ⟨rfl, rfl⟩, rfl, rfl, fun a ha => (by cases ha), fun e he => (by cases he), fun e he => (by cases he), fun e he => (by cases he), fun e he => (by cases he), fun nm num ⟨D, e, _⟩ => (by cases e), fun nm num ⟨D, e, _⟩ => (by cases e), fun c hc => (by cases hc), fun _ _ => rfl, fun k hk => (by cases hk), fun a ha => (by cases ha), fun a ha => (by cases ha), fun c hc => (by cases hc), fun e he => (by cases he), fun e he => (by cases he)⟩
  · rcases hk with (hk | hk | ⟨a, ha, _⟩ | ⟨e, he, _⟩) | ⟨c, hc, _⟩ | ⟨e, he, _⟩ | ⟨a, ha, _⟩
    · simp [Dr.mut, mblk, Value.ownBlock] at hk; omega
    · cases hk
    · cases ha
    · cases he
    · cases hc
    · cases he
    · cases ha
end Go.Proofs.Ytkmohpdcchpndaa

/-
  A disk and what it says: its operations.
-/
namespace Go.Proofs.Ytkmohpdcchpndaa
open Go.RowKit Go.Maps
set_option linter.unusedVariables false
set_option linter.unusedSimpArgs false
set_option maxRecDepth 100000
theorem nodup_le {α : Type} [DecidableEq α] : ∀ {l l' : List α}, l.Nodup → (∀ a ∈ l, a ∈ l') → l.length ≤ l'.length
  | [], _, _, _ => Nat.zero_le _
  | a :: r, l', h, hs => by
    have h1 := List.nodup_cons.1 h
    have h2 : r.length ≤ (l'.erase a).length := nodup_le h1.2 fun b hb => (List.mem_erase_of_ne (fun e : b = a => h1.1 (e ▸ hb))).2 (hs b (by simp [hb]))
    have h3 := List.length_erase_of_mem (hs a (by simp))
    have h4 : 0 < l'.length := List.length_pos_of_mem (hs a (by simp))
    simp only [List.length_cons]
    omega
/-- an operation's answer, and the disk behind it -/
abbrev Op (f : Nat) (args : Array Value) (w : World) (base d : Nat) (own : Nat → Prop) (r : Int × DS) (N : Nat) : Prop := Ans f args w fun v w' => v = r.1 ∧ ∃ own', Rep w' base d r.2 N own' ∧ Fr w w' own own'
theorem RepX.names {w : World} {base d : Nat} {s : DS} {N : Nat} {x : Dr} {am : Option Am} {fo : Option (DataW Unit)} {nf : Nat} {es : List En} {lab : Nat → Nat} (h : RepX w base d s N x am fo nf es lab) : Names s.dn (namesL x.now) := namesL_is h.dk.dir.now h.dn (fun nm num hh => by obtain ⟨e, _, e1⟩ := h.dk.named nm num hh; exact ⟨e.num, e1⟩)
theorem RepX.ent {w : World} {base d : Nat} {s : DS} {N : Nat} {x : Dr} {am : Option Am} {fo : Option (DataW Unit)} {nf : Nat} {es : List En} {lab : Nat → Nat} (h : RepX w base d s N x am fo nf es lab) {nm : ByteArray} {n : Nat} (hn : s.dn nm = some n) : ∃ e ∈ es, e.num = n := by
  obtain ⟨e, he, e1⟩ := h.dk.named nm n (h.dn.has hn)
  exact ⟨e, he, by omega⟩
/-- a file of what a disk says is turned -/
theorem frel_setf {es : List En} {fl : Nat → FM} (h : ∀ e ∈ es, FRel e.f (fl e.num)) {n : Nat} {f' : Fs} {m : FM} (hf : FRel f' m) : ∀ e ∈ setf es n f', FRel e.f (updF fl n m e.num) := fun y hy => by
  rcases mem_setf hy with ⟨z, hz, hn, rfl⟩ | ⟨hy, hn⟩
  · rw [show (⟨z.num, z.b, f'⟩ : En).num = n from hn, updF_same]; exact hf
  · rw [updF_other _ _ hn]; exact h y hy
theorem fok_upd {fl : Nat → FM} (h : ∀ n, FOk (fl n)) {n : Nat} {m : FM} (hm : FOk m) : ∀ k, FOk (updF fl n m k) := fun k => by
  by_cases e : k = n
  · subst e; rw [updF_same]; exact hm
  · rw [updF_other _ _ e]; exact h k
theorem ans_fr {f : Nat} {args : Array Value} {w w1 : World} {base d : Nat} {own own1 : Nat → Prop} {r : Int × DS} {N : Nat} (hf : Fr w w1 own own1) (h : Op f args w1 base d own1 r N) : Ans f args w1 fun v w' => v = r.1 ∧ ∃ own', Rep w' base d r.2 N own' ∧ Fr w w' own own' :=
  h.mono fun v w' ⟨hv, own', hr, hf'⟩ => ⟨hv, own', hr, hf.trans hf'⟩
noncomputable def createS (s : DS) (nm : ByteArray) : DS := { s with made := s.made + 1, dc := s.dc ++ [.nm nm (s.made + 1)], dn := dirDo s.dn (.nm nm (s.made + 1)), fl := updF s.fl (s.made + 1) ⟨[], [], []⟩ }
theorem create_rep (w : World) (base d : Nat) (s : DS) (N : Nat) (own : Nat → Prop) (h : Rep w base d s N own) (hN : N + 1 < 1000000) (hup : s.down = false) (nm : ByteArray) (hnm : nmOk nm) (hno : s.dn nm = none) (hfew : ∃ l : List ByteArray, (∀ a k, s.dn a = some k → a ∈ l) ∧ l.length < 64) :
    Op 18 #[.pointer (some ⟨d, 0, none⟩), .string nm] w base d own (finS (createS s nm)) (N + 1) := by
  obtain ⟨x, am, fo, nf, es, lab, hx, rfl⟩ := h
  have hb1 := hx.b1; have hb2 := hx.b2; have hb3 := hx.b3; have hb4 := hx.b4
  have hs : nm.size ≤ maxLen := by have := hnm.2.1; have : (64 : Nat) ≤ maxLen := by decide
                                   omega
  obtain ⟨l, hl1, hl2⟩ := hfew
  have hsz : x.now.elim 0 Go.Maps.size < 64 := by
    have hn := hx.names
    rw [← names_length hx.dk.dir.now]
    refine Nat.lt_of_le_of_lt (@nodup_le _ (Classical.typeDecidableEq _) _ l hn.1 fun a ha => ?_) hl2
    have := (hn.2.2 a).1 ha
    cases hq : s.dn a with
    | none => exact absurd hq this
    | some k => exact hl1 a k hq
  refine create_ok w base d x am fo nf s.made es lab hx.dk (by rw [hx.c1, hup]) nm hnm hs (hx.dn.not hx.dk.dir.now hs hno) hsz (by omega) (by omega) (by omega) (by omega) hx.b7 _ ?_
  intro w1 x' lab' dv ro fb dk1 kt hro e1 e2 e3 e4 e5 e6 e7
  have hx1 : RepX w1 base d (createS s nm) (N + 1) x' am (some ((fo.getD (.map [])).put (fkey (s.made + 1)) (.lit (.int .i64 fb)))) (nf + 1) (es ++ [⟨s.made + 1, fb, noFile⟩]) lab' := by
    refine ⟨dk1, e6.trans hx.c0, e7.trans hx.c1, hx.arm, by rw [e1]; exact hx.dl, by rw [e5, List.map_append, hx.dc]; rfl, by rw [e3]; exact has_do_iff (c := .nm nm (s.made + 1)) hx.dk.dir.now.isMap (by trivial) hx.dn, ?_, by show s.made + 1 ≤ _; omega, by omega, by rw [e2, e5]; simp; omega, by omega, ?_, fok_upd hx.fok ⟨by show 0 ≤ 1048576; omega, rfl⟩, hx.b6, Nat.le_trans hx.b7 kt.size⟩
    · intro e he
      rw [List.mem_append, List.mem_singleton] at he
      show FRel e.f (updF s.fl (s.made + 1) ⟨[], [], []⟩ e.num)
      rcases he with he | rfl
      · rw [updF_other _ _ (by have := (hx.dk.at_ e he).2; omega)]; exact hx.fl e he
      · rw [updF_same]; exact ⟨rfl, rfl, rfl⟩
    · intro e he
      rw [List.mem_append, List.mem_singleton] at he
      rcases he with he | rfl
      · have := hx.b5 e he; omega
      · simp [noFile]
  refine ans_fr (fr_of kt fun k hk => ?_) (done_rep w1 base d _ (N + 1) x' am _ (nf + 1) _ lab' hx1 hN hup)
  rcases hk with ⟨c, hc, hk⟩ | ⟨e, he, c, hc, hk⟩ | ha
  · rw [e5, List.mem_append, List.mem_singleton] at hc
    rcases hc with hc | rfl
    · exact .inl (.inr (.inl ⟨c, hc, hk⟩))
    · exact .inr (hro k hk)
  · rw [List.mem_append, List.mem_singleton] at he
    rcases he with he | rfl
    · exact .inl (.inr (.inr (.inl ⟨e, he, c, hc, hk⟩)))
    · cases hc
  · exact .inl (.inr (.inr (.inr ha)))
/-- one more change of a file -/
def chgS (s : DS) (n : Nat) (c : Fc) : DS := { s with fl := updF s.fl n ⟨(s.fl n).last, (s.fl n).chg ++ [c], c.do (s.fl n).now c.size⟩ }
theorem chg_rep {w w1 : World} {base d : Nat} {s : DS} {N : Nat} {x : Dr} {am : Option Am} {fo : Option (DataW Unit)} {nf : Nat} {es : List En} {lab lab' : Nat → Nat} (hx : RepX w base d s N x am fo nf es lab) (hN : N + 1 < 1000000) (hup : s.down = false) {e : En} (he : e ∈ es) {c : Fc} {f' : Fs} {dv : Value} {ro : List Nat} (hc : c.ok (s.fl e.num).now) (hl : (c.do (s.fl e.num).now c.size).length ≤ 1048576)
    (dk1 : Dk w1 base d x am fo nf s.made (setf es e.num f') lab') (kt : Kt w w1 d x am es x am (setf es e.num f')) (hro : ∀ k ∈ ro, w.heap.size ≤ k) (e1 : f'.last = e.f.last) (e2 : f'.now = c.do e.f.now c.size) (e3 : f'.ls = e.f.ls ++ [⟨dv, c, ro⟩]) :
    Ans 34 #[.pointer (some ⟨d, 0, none⟩)] w1 fun v w' => v = (finS (chgS s e.num c)).1 ∧ ∃ own', Rep w' base d (finS (chgS s e.num c)).2 (N + 1) own' ∧ Fr w w' (dall d x am es) own' := by
  obtain ⟨q1, q2, q3⟩ := hx.fl e he
  have hx1 : RepX w1 base d (chgS s e.num c) (N + 1) x am fo nf (setf es e.num f') lab' := by
    refine { hx with dk := dk1, fl := frel_setf hx.fl ⟨e1.trans q1, by rw [e3, List.map_append, q2]; rfl, by rw [e2, q3]⟩, b1 := Nat.le_succ_of_le hx.b1, b2 := Nat.le_succ_of_le hx.b2, b3 := Nat.le_succ_of_le hx.b3, b4 := Nat.le_succ_of_le hx.b4, b5 := fun y hy => ?_, fok := fok_upd hx.fok ((hx.fok e.num).change hc hl), b7 := Nat.le_trans hx.b7 kt.size }
    rcases mem_setf hy with ⟨z, hz, hn, rfl⟩ | ⟨hy, hn⟩
    · rw [show (⟨z.num, z.b, f'⟩ : En).f = f' from rfl, e3]
      have := hx.b5 e he
      simp; omega
    · exact Nat.le_succ_of_le (hx.b5 y hy)
  refine ans_fr (fr_of kt fun k hk => ?_) (done_rep w1 base d _ (N + 1) x am fo nf _ lab' hx1 hN hup)
  rcases hk with hk | ⟨y, hy, c', hc', hk⟩ | ha
  · exact .inl (.inr (.inl hk))
  · rcases mem_setf hy with ⟨z, hz, hn, rfl⟩ | ⟨hy, hn⟩
    · rw [show (⟨z.num, z.b, f'⟩ : En).f = f' from rfl, e3, List.mem_append, List.mem_singleton] at hc'
      rcases hc' with hc' | rfl
      · exact .inl (.inr (.inr (.inl ⟨e, he, c', hc', hk⟩)))
      · exact .inr (hro k hk)
    · exact .inl (.inr (.inr (.inl ⟨y, hy, c', hc', hk⟩)))
  · exact .inl (.inr (.inr (.inr ha)))
theorem name_short {nm : ByteArray} (h : nmOk nm) : nm.size ≤ maxLen := by
  have := h.2.1
  have : (64 : Nat) ≤ maxLen := by decide
  omega
theorem cut_rep (w : World) (base d : Nat) (s : DS) (N : Nat) (own : Nat → Prop) (h : Rep w base d s N own) (hN : N + 1 < 1000000) (hup : s.down = false) (nm : ByteArray) (hnm : nmOk nm) (n : Nat) (hn : s.dn nm = some n) (k : Nat) (hk : k ≤ (s.fl n).now.length) :
    Op 22 #[.pointer (some ⟨d, 0, none⟩), .string nm, .int .i64 k] w base d own (finS (chgS s n (.ct k))) (N + 1) := by
  obtain ⟨x, am, fo, nf, es, lab, hx, rfl⟩ := h
  obtain ⟨e, he, rfl⟩ := hx.ent hn
  have hb1 := hx.b1; have hb5 := hx.b5 e he
  obtain ⟨q1, q2, q3⟩ := hx.fl e he
  have hsm := (hx.fok e.num).now_small
  refine cut_ok w base d x am fo nf s.made es lab hx.dk e he (by rw [hx.c1, hup]) nm hnm (name_short hnm) (hx.dn.has hn) (by omega) k (by rw [q3]; exact hk) (by omega) (by rw [q3]; omega) hx.b7 _ ?_
  intro w1 f' lab' dv ro dk1 kt hro e1 e2 e3
  exact chg_rep hx hN hup he (c := .ct k) hk (by show ((s.fl e.num).now.take k).length ≤ _; simp; omega) dk1 kt hro e1 e2 e3
/-- how many bytes a name has -/
def szM (s : DS) (nm : ByteArray) : Nat := match s.dn nm with
  | some n => (s.fl n).now.length
  | none => 0
noncomputable def usedS (s : DS) : Nat := ((namesOf s.dn).map (szM s)).sum
theorem usum_sum {g : Lit → Nat} {left : Lit → Bool} {G : List UInt8 → Nat} : ∀ {l : List (Lit × DataW Unit)}, (∀ p ∈ l, left p.1 = true ∧ g p.1 = G (strOf p.1)) → usum g left l = (l.map fun p => G (strOf p.1)).sum
  | [], _ => rfl
  | p :: r, h => by
    obtain ⟨h1, h2⟩ := h p (by simp)
    simp only [usum, h1, if_true, List.map_cons, List.sum_cons, h2]
    rw [usum_sum fun q hq => h q (by simp [hq])]
theorem RepX.used {w : World} {base d : Nat} {s : DS} {N : Nat} {x : Dr} {am : Option Am} {fo : Option (DataW Unit)} {nf : Nat} {es : List En} {lab : Nat → Nat} (h : RepX w base d s N x am fo nf es lab) : usedOf es x.now = usedS s := by
  unfold usedS
  rw [namesOf_eq h.names]
  have hdm := h.dk.dir.now
  rcases hdm with ⟨_, e⟩ | ⟨m, D, _, e, _, hown, _⟩
  · rw [e]; rfl
  · obtain ⟨ents, hD, hpw, _⟩ := hown.entries (Go.Maps.string_keyed Try.underlying9)
    obtain ⟨ents', hD', hko⟩ := hown.keysOf
    obtain rfl : ents = ents' := by rw [hD] at hD'; simpa using hD'
    subst hD
    rw [e]
    show usum (szk es (.map ents)) (has (.map ents)) ents = _
    have hstep : ∀ p ∈ ents, has (.map ents) p.1 = true ∧ szk es (.map ents) p.1 = szM s ⟨(strOf p.1).toArray⟩ := by
      intro p hp
      obtain ⟨v, hv⟩ := hko p hp
      obtain ⟨y, _, hy, _⟩ := Maps.keyOf_str Try.underlying9 hv
      have hh : has (.map ents) p.1 = true := by
        rw [has_eq, List.any_eq_true]
        exact ⟨p, hp, by rw [hy]; simp [Lit.sameKey]⟩
      refine ⟨hh, ?_⟩
      have hmem : (⟨y.toArray⟩ : ByteArray) ∈ namesL x.now := by
        rw [e]
        simp only [namesL, Option.elim_some, List.mem_map, List.mem_mergeSort]
        exact ⟨y, List.mem_map.2 ⟨p, hp, by rw [hy]; rfl⟩, rfl⟩
      obtain ⟨num, hn⟩ := names_mem h.dk.dir.now hmem
      obtain ⟨k, hk, rfl⟩ := (h.dn _ _).1 hn
      obtain ⟨e0, he0, rfl⟩ := h.ent hk
      obtain ⟨D1, e1, hat⟩ := hn
      rw [e] at e1; cases e1
      have hkey : keyOf (⟨y.toArray⟩ : ByteArray) = p.1 := by rw [hy]
      rw [hkey] at hat
      unfold szk
      rw [hat]
      simp only
      rw [szn_of h.dk.one he0, (h.fl e0 he0).2.2]
      unfold szM
      rw [hy, show strOf (.string y) = y from rfl, hk]
    rw [usum_sum (G := fun l => szM s ⟨l.toArray⟩) hstep]
    show _ = ((((strKeys (.map ents : DataW Unit)).mergeSort leB).map fun l => (⟨l.toArray⟩ : ByteArray)).map (szM s)).sum
    rw [List.map_map]
    have hp : ((strKeys (.map ents : DataW Unit)).mergeSort leB).Perm (strKeys (.map ents)) := List.mergeSort_perm _ _
    rw [(hp.map _).sum_nat]
    simp only [strKeys, List.map_map]
    rfl
theorem RepX.used_le {w : World} {base d : Nat} {s : DS} {N : Nat} {x : Dr} {am : Option Am} {fo : Option (DataW Unit)} {nf : Nat} {es : List En} {lab : Nat → Nat} (h : RepX w base d s N x am fo nf es lab) : usedS s ≤ N * 1048576 := by
  unfold usedS
  rw [namesOf_eq h.names]
  have hl : (namesL x.now).length ≤ N := by
    rw [names_length h.dk.dir.now]
    exact Nat.le_trans (dm_size h.dk.dir.now) h.b4
  have : ∀ l : List ByteArray, (l.map (szM s)).sum ≤ l.length * 1048576 := by
    intro l
    induction l with
    | nil => exact Nat.le_refl _
    | cons a r ih =>
      have ha : szM s a ≤ 1048576 := by
        unfold szM
        split
        · exact (h.fok _).now_small
        · omega
      simp only [List.map_cons, List.sum_cons, List.length_cons]
      omega
  have h1 := this (namesL x.now)
  exact Nat.le_trans h1 (Nat.mul_le_mul_right 1048576 hl)
theorem write_rep (w : World) (base d : Nat) (s : DS) (N : Nat) (own : Nat → Prop) (h : Rep w base d s N own) (hN : N + 1 < 1000000) (hup : s.down = false) (nm : ByteArray) (hnm : nmOk nm) (n : Nat) (hn : s.dn nm = some n) (at_ : Nat) (hat : at_ ≤ (s.fl n).now.length) (ai : Option Addr) (m cp : Nat) (p : List Int) (hl : p.length = m) (hb : ai = none → cp = 0) (hp : Has w ai p) (ho : Octets p) (hlen : at_ + m ≤ 1048576) (hroom : (s.fl n).now.length < at_ + m → usedS s + (at_ + m - (s.fl n).now.length) ≤ s.room) :
    Op 19 #[.pointer (some ⟨d, 0, none⟩), .string nm, .int .i64 at_, .slice ai m cp] w base d own (finS (chgS s n (.wr at_ p))) (N + 1) := by
  obtain ⟨x, am, fo, nf, es, lab, hx, rfl⟩ := h
  obtain ⟨e, he, rfl⟩ := hx.ent hn
  have hb1 := hx.b1; have hb5 := hx.b5 e he; have hb6 := hx.b6
  obtain ⟨q1, q2, q3⟩ := hx.fl e he
  have hsm := (hx.fok e.num).now_small
  have hu := hx.used
  have hul := hx.used_le
  have hmx : N * 1048576 ≤ 1048576000000 := by omega
  have fin : ∀ w1 f' lab' dv ro, Dk w1 base d x am fo nf s.made (setf es e.num f') lab' → Kt w w1 d x am es x am (setf es e.num f') → (∀ k ∈ ro, w.heap.size ≤ k) → f'.last = e.f.last → f'.now = over e.f.now at_ p → f'.ls = e.f.ls ++ [⟨dv, .wr at_ p, ro⟩] → Ans 34 #[.pointer (some ⟨d, 0, none⟩)] w1 fun v w' => v = (finS (chgS s e.num (.wr at_ p))).1 ∧ ∃ own', Rep w' base d (finS (chgS s e.num (.wr at_ p))).2 (N + 1) own' ∧ Fr w w' (dall d x am es) own' := by
    intro w1 f' lab' dv ro dk1 kt hro e1 e2 e3
    refine chg_rep hx hN hup he (c := .wr at_ p) hat ?_ dk1 kt hro e1 ?_ e3
    · show (over (s.fl e.num).now at_ (p.take p.length)).length ≤ _
      rw [List.take_length, over_length _ _ _ hat]
      omega
    · show f'.now = over e.f.now at_ (p.take p.length)
      rw [List.take_length]; exact e2
  by_cases hin : at_ + m ≤ e.f.now.length
  · exact write_in w base d x am fo nf s.made es lab hx.dk e he (by rw [hx.c1, hup]) s.room hx.c0 nm hnm (name_short hnm) (hx.dn.has hn) (by omega) at_ (by rw [q3]; exact hat) ai m cp p hl hb hp ho (by omega) (by omega) (by rw [q3] at hin ⊢; omega) (by rw [hu]; omega) hin hx.b7 _ fin
  · have hin' : e.f.now.length < at_ + m := by omega
    exact write_out w base d x am fo nf s.made es lab hx.dk e he (by rw [hx.c1, hup]) s.room hx.c0 nm hnm (name_short hnm) (hx.dn.has hn) (by omega) at_ (by rw [q3]; exact hat) ai m cp p hl hb hp ho (by omega) (by omega) (by rw [q3] at hin' ⊢; omega) (by rw [hu]; omega) hin' (by rw [hu, q3]; exact hroom (by rw [← q3]; exact hin')) hb6 hx.b7 _ fin
end Go.Proofs.Ytkmohpdcchpndaa
