import Derived.Test.YtkmohpdcchpndaaBndA
import Derived.Test.YtkmohpdcchpndaaWro
/-
  Names that are refused.
-/
namespace Go.Proofs.Ytkmohpdcchpndaa
open Go.RowKit Go.Maps
set_option linter.unusedVariables false
set_option linter.unusedSimpArgs false
set_option maxRecDepth 100000
theorem create_bad (p : Option Addr) (nm : ByteArray) (E : Int) (w : World) (h : Calls Try.prog 29 #[.pointer p, .slice (some ⟨w.heap.size, 0, none⟩) 1 1] (w.alloc (.cells #[.string nm] 9 (0, 0))) fun e w' => e = .returned (.int .i64 E) ∧ w' = w.alloc (.cells #[.string nm] 9 (0, 0))) (hE : (E == 0) = false) : Ans 18 #[.pointer p, .string nm] w fun v w' => v = E ∧ Below w.heap.size w w' := by
  have HC := hide2 h
  clear h
  go_enter Try.func18, Try.ntmps18
  go_wp2_with (first | (go_at_call 29; refine HC.out.mono ?_; rintro e w1 ⟨rfl, hw⟩; subst hw))
  go_ret
  exact ⟨E, rfl, rfl, (Below.refl _ _).alloc (Nat.le_refl _) _⟩
theorem create_arg (w : World) (base d : Nat) (x : Dr) (h : Dir w base d x) (hup : x.c1 = .bool false) (nm : ByteArray) (hnm : ¬ nmOk nm) (hs : nm.size ≤ maxLen) : Ans 18 #[.pointer (some ⟨d, 0, none⟩), .string nm] w fun v w' => v = 2 ∧ Below w.heap.size w w' := by
  have hB : Below w.heap.size w (w.alloc (.cells #[.string nm] 9 (0, 0))) := (Below.refl _ _).alloc (Nat.le_refl _) _
  have hb := (hB.block d (lt_of_block h.blk)).trans h.blk
  rw [hup] at hb
  exact create_bad _ nm 2 w (refuses_arg1 d w.heap.size nm _ (by rw [cell_block hb]; rfl) (by rw [cell_block (alloc_new rfl)]; rfl) hnm hs) rfl
theorem create_down (w : World) (base d : Nat) (x : Dr) (h : Dir w base d x) (hdn : x.c1 = .bool true) (nm : ByteArray) : Ans 18 #[.pointer (some ⟨d, 0, none⟩), .string nm] w fun v w' => v = 32 ∧ Below w.heap.size w w' := by
  have hB : Below w.heap.size w (w.alloc (.cells #[.string nm] 9 (0, 0))) := (Below.refl _ _).alloc (Nat.le_refl _) _
  have hb := (hB.block d (lt_of_block h.blk)).trans h.blk
  rw [hdn] at hb
  exact create_bad _ nm 32 w (refuses_down d _ _ (by rw [cell_block hb]; rfl)) rfl
theorem create_no (w : World) (base d : Nat) (x : Dr) (h : Dir w base d x) (hup : x.c1 = .bool false) (nm : ByteArray) (hnm : nmOk nm) (hs : nm.size ≤ maxLen) (E : Int) (hE : (E = 35 ∧ ∃ num, Has1 x.now nm num) ∨ (E = 31 ∧ Not1 x.now nm ∧ 64 ≤ x.now.elim 0 Go.Maps.size)) (hfew : x.now.elim 0 Go.Maps.size ≤ 1000000) : Ans 18 #[.pointer (some ⟨d, 0, none⟩), .string nm] w fun v w' => v = E ∧ Below w.heap.size w w' := by
  have hB : Below w.heap.size w (w.alloc (.cells #[.string nm] 9 (0, 0))) := (Below.refl _ _).alloc (Nat.le_refl _) _
  have hb := (hB.block d (lt_of_block h.blk)).trans h.blk
  rw [hup] at hb
  obtain ⟨mo, hnv⟩ := h.now.shape
  rw [hnv] at hb
  have h1 : (w.alloc (.cells #[.string nm] 9 (0, 0))).cell? ⟨d, 1, none⟩ = some (.bool false) := by rw [cell_block hb]; rfl
  have h5 : (w.alloc (.cells #[.string nm] 9 (0, 0))).cell? ⟨d, 5, none⟩ = some (.map mo) := by rw [cell_block hb]; rfl
  have hn := h.now
  rw [hnv] at hn
  have hn' := hn.keep (w' := w.alloc (.cells #[.string nm] 9 (0, 0))) fun k hk => hB.block k (hn.low hk).2
  obtain ⟨L, hL⟩ : ∃ L, x.now.elim 0 Go.Maps.size = L := ⟨_, rfl⟩
  have hlen : ∀ ty, (Builtin.len_ #[62] ty #[.map mo]).run Try.prog (w.alloc (.cells #[.string nm] 9 (0, 0))) = .ok (.int .i64 (L : Int)) (w.alloc (.cells #[.string nm] 9 (0, 0))) := fun ty => hL ▸ dm_len hn' ty
  rw [hL] at hE hfew
  have HC : Hid (Calls Try.prog 29 #[.pointer (some ⟨d, 0, none⟩), .slice (some ⟨w.heap.size, 0, none⟩) 1 1] (w.alloc (.cells #[.string nm] 9 (0, 0))) fun e w' => e = .returned (.int .i64 0) ∧ w' = w.alloc (.cells #[.string nm] 9 (0, 0))) := refuses_ok d _ 1 1 [nm] _ h1 rfl (by omega) (one_name w nm) (fun s hs => by simp at hs; subst hs; exact hnm)
  have HB := hide2 hB
  rcases hE with ⟨rfl, num, hh⟩ | ⟨rfl, hno, h64⟩
  · have hl : ∃ num, (Instr.lookup 62 (.map mo) (.string nm) true).run Try.prog (w.alloc (.cells #[.string nm] 9 (0, 0))) = .ok (.tuple #[.int .i64 num, .bool true]) (w.alloc (.cells #[.string nm] 9 (0, 0))) := by
      rcases dm_look hn' nm hs with ⟨num, h1, _⟩ | ⟨_, hno⟩
      · exact ⟨num, h1⟩
      · exact (has_not hh hno).elim
    obtain ⟨num', hl⟩ := hl
    clear h hn hn' hnv hb hL hh hB
    go_enter Try.func18, Try.ntmps18
    go_wp2_with (first | (go_at_call 29; refine HC.out.mono ?_; rintro e w1 ⟨rfl, hw⟩; subst hw))
    go_ret
    exact ⟨35, rfl, rfl, HB.out⟩
  · have hl : (Instr.lookup 62 (.map mo) (.string nm) true).run Try.prog (w.alloc (.cells #[.string nm] 9 (0, 0))) = .ok (.tuple #[.int .i64 0, .bool false]) (w.alloc (.cells #[.string nm] 9 (0, 0))) := by
      rcases dm_look hn' nm hs with ⟨num, _, hh, _⟩ | ⟨h1, _⟩
      · exact (has_not hh hno).elim
      · exact h1
    clear h hn hn' hnv hb hL hno hB
    go_enter Try.func18, Try.ntmps18
    go_wp2_with (first | (go_at_call 29; refine HC.out.mono ?_; rintro e w1 ⟨rfl, hw⟩; subst hw))
    go_ret
    exact ⟨31, rfl, rfl, HB.out⟩
end Go.Proofs.Ytkmohpdcchpndaa

/-
  A disk as the document has it: what it says, and what each call makes of it.
-/
namespace Go.Proofs.Ytkmohpdcchpndaa
open Go.RowKit Go.Maps
set_option linter.unusedVariables false
set_option linter.unusedSimpArgs false
set_option maxRecDepth 100000
/-- a file -/
structure FM where
  last : List Int
  chg : List Fc
  now : List Int
/-- changes of a file's bytes that can be done, and none of them makes it too long -/
def Ok20 : List Int → List Fc → Prop
  | b, [] => b.length ≤ 1048576
  | b, c :: r => b.length ≤ 1048576 ∧ c.ok b ∧ Ok20 (c.do b c.size) r
def chgAll (b : List Int) (l : List Fc) : List Int := l.foldl (fun b c => c.do b c.size) b
def FOk (m : FM) : Prop := Ok20 m.last m.chg ∧ m.now = chgAll m.last m.chg
theorem Ok20.small {b : List Int} {l : List Fc} (h : Ok20 b l) : b.length ≤ 1048576 := by
  cases l with
  | nil => exact h
  | cons c r => exact h.1
theorem Ok20.at {b : List Int} {l : List Fc} (h : Ok20 b l) (k : Nat) : Ok20 (chgAll b (l.take k)) (l.drop k) := by
  induction l generalizing b k with
  | nil => simpa [chgAll] using h
  | cons c r ih =>
    cases k with
    | zero => simpa [chgAll] using h
    | succ k => simpa [chgAll] using ih h.2.2 k
theorem Ok20.app {b : List Int} {l : List Fc} {c : Fc} (h : Ok20 b l) (hc : c.ok (chgAll b l)) (hl : (c.do (chgAll b l) c.size).length ≤ 1048576) : Ok20 b (l ++ [c]) := by
  induction l generalizing b with
  | nil => exact ⟨h, hc, hl⟩
  | cons c' r ih => exact ⟨h.1, h.2.1, ih h.2.2 hc hl⟩
theorem FOk.now_small {m : FM} (h : FOk m) : m.now.length ≤ 1048576 := by
  have := (h.1.at m.chg.length).small
  rw [List.take_length] at this
  rw [h.2]; exact this
theorem chgAll_app (b : List Int) (l : List Fc) (c : Fc) : chgAll b (l ++ [c]) = c.do (chgAll b l) c.size := by simp [chgAll]
theorem FOk.change {m : FM} (h : FOk m) {c : Fc} (hc : c.ok m.now) (hl : (c.do m.now c.size).length ≤ 1048576) : FOk ⟨m.last, m.chg ++ [c], c.do m.now c.size⟩ := by
  rw [h.2] at hc hl ⊢
  exact ⟨h.1.app hc hl, (chgAll_app _ _ _).symm⟩
/-- a disk -/
structure DS where
  room : Nat
  down : Bool
  arm : Option (Nat × List Int)
  dl : ByteArray → Option Nat
  dc : List Dc
  dn : ByteArray → Option Nat
  fl : Nat → FM
  made : Nat
abbrev Dir' := ByteArray → Option Nat
open Classical in
noncomputable def dirDo (g : Dir') : Dc → Dir'
  | .nm n k => fun a => if a = n then some k else g a
  | .rn f t k => fun a => if a = t then some k else if a = f then none else g a
  | .rm n => fun a => if a = n then none else g a
/-- a directory in memory, and what it says -/
def DRel (od : Option (DataW Unit)) (g : Dir') : Prop := ∀ nm (num : Int), Has1 od nm num ↔ ∃ k : Nat, g nm = some k ∧ num = k
def FRel (f : Fs) (m : FM) : Prop := f.last = m.last ∧ f.ls.map (·.c) = m.chg ∧ f.now = m.now
theorem DRel.has {od : Option (DataW Unit)} {g : Dir'} (h : DRel od g) {nm : ByteArray} {k : Nat} (hk : g nm = some k) : Has1 od nm (k : Int) := (h nm k).2 ⟨k, hk, rfl⟩
theorem DRel.not {w : World} {base : Nat} {mv : Value} {od : Option (DataW Unit)} {n : Nat} {g : Dir'} (h : DRel od g) (hd : Dm w base mv od n) {nm : ByteArray} (hs : nm.size ≤ maxLen) (hk : g nm = none) : Not1 od nm := by
  obtain ⟨mo, rfl⟩ := hd.shape
  rcases dm_look hd nm hs with ⟨num, _, hh, _⟩ | ⟨_, hn⟩
  · obtain ⟨k, e, _⟩ := (h nm num).1 hh
    rw [hk] at e; cases e
  · exact hn
/-- what a change of the directory makes of what it says -/
theorem has_do_iff {c : Dc} {od : Option (DataW Unit)} (hm : odMap od) (hok : c.ok od) {g : Dir'} (h : DRel od g) : DRel (c.do od) (dirDo g c) := by
  have putS : ∀ (D : DataW Unit), IsMap D → ∀ (n : ByteArray) (k : Nat) nm num, Has1 (some (D.put (keyOf n) (.lit (.int .i64 k)))) nm num ↔ (nm = n ∧ num = k) ∨ (nm ≠ n ∧ Has1 (some D) nm num) := by
    intro D hD n k nm num
    constructor
    · intro hh
      by_cases e : nm = n
      · rcases has_put hD hh with h' | h'
        · exact .inl h'
        · subst e
          obtain ⟨D1, e1, hat⟩ := hh
          cases e1
          have := hat .nil
          rw [atKey_put_same hD (by trivial)] at this
          injection this with this
          injection this with _ this
          exact .inl ⟨rfl, this.symm⟩
      · rcases has_put hD hh with h' | h'
        · exact absurd h'.1 e
        · exact .inr ⟨e, h'⟩
    · rintro (⟨rfl, rfl⟩ | ⟨e, D1, e1, hat⟩)
      · exact ⟨_, rfl, fun z => atKey_put_same hD (by trivial) _ z⟩
      · cases e1
        exact ⟨_, rfl, fun z => by rw [atKey_put_other (keyOf_ne e)]; exact hat z⟩
  have delS : ∀ (D : DataW Unit) (n : ByteArray) nm num, Has1 (some (D.del (keyOf n))) nm num ↔ nm ≠ n ∧ Has1 (some D) nm num := by
    intro D n nm num
    constructor
    · exact fun hh => has_del hh
    · rintro ⟨e, D1, e1, hat⟩
      cases e1
      exact ⟨_, rfl, fun z => by rw [atKey_del_other (keyOf_ne e)]; exact hat z⟩
  intro nm num
  cases c with
  | nm n k =>
    have base : ∀ nm num, Has1 (some (od.getD (.map []))) nm num ↔ Has1 od nm num := by
      intro nm num
      cases od with
      | none =>
        constructor
        · rintro ⟨D, e, hat⟩
          cases e
          exact (lit_not_all (num := num) fun z => (hat z).symm ▸ rfl).elim
        · rintro ⟨D, e, _⟩; cases e
      | some D => exact Iff.rfl
    have hD : IsMap (od.getD (.map [])) := by
      cases od with
      | none => exact ⟨[], rfl⟩
      | some D => exact hm D rfl
    show Has1 (some ((od.getD (.map [])).put (keyOf n) (.lit (.int .i64 k)))) nm num ↔ _
    rw [putS _ hD, base, h nm num]
    simp only [dirDo]
    by_cases e : nm = n
    · rw [if_pos e]
      constructor
      · rintro (⟨_, rfl⟩ | ⟨h', _⟩)
        · exact ⟨k, rfl, rfl⟩
        · exact absurd e h'
      · rintro ⟨k', e1, rfl⟩
        cases e1
        exact .inl ⟨e, rfl⟩
    · rw [if_neg e]
      constructor
      · rintro (⟨h', _⟩ | ⟨_, h'⟩)
        · exact absurd h' e
        · exact h'
      · exact fun h' => .inr ⟨e, h'⟩
  | rn f t k =>
    cases od with
    | none => exact absurd rfl hok
    | some D =>
      show Has1 (some ((D.del (keyOf f)).put (keyOf t) (.lit (.int .i64 k)))) nm num ↔ _
      rw [putS _ (isMap_del (hm D rfl) _), delS, h nm num]
      simp only [dirDo]
      by_cases e : nm = t
      · rw [if_pos e]
        constructor
        · rintro (⟨_, rfl⟩ | ⟨h', _⟩)
          · exact ⟨k, rfl, rfl⟩
          · exact absurd e h'
        · rintro ⟨k', e1, rfl⟩
          cases e1
          exact .inl ⟨e, rfl⟩
      · rw [if_neg e]
        by_cases e2 : nm = f
        · rw [if_pos e2]
          constructor
          · rintro (⟨h', _⟩ | ⟨_, h', _⟩)
            · exact absurd h' e
            · exact absurd e2 h'
          · rintro ⟨k', e1, _⟩; cases e1
        · rw [if_neg e2]
          constructor
          · rintro (⟨h', _⟩ | ⟨_, _, h'⟩)
            · exact absurd h' e
            · exact h'
          · exact fun h' => .inr ⟨e, e2, h'⟩
  | rm n =>
    cases od with
    | none => exact absurd rfl hok
    | some D =>
      show Has1 (some (D.del (keyOf n))) nm num ↔ _
      rw [delS, h nm num]
      simp only [dirDo]
      by_cases e : nm = n
      · rw [if_pos e]
        constructor
        · exact fun h' => absurd e h'.1
        · rintro ⟨k', e1, _⟩; cases e1
      · rw [if_neg e]
        exact ⟨fun h' => h'.2, fun h' => ⟨e, h'⟩⟩
noncomputable def dirAll (g : Dir') (l : List Dc) : Dir' := l.foldl dirDo g
theorem rd_rel : ∀ {l : List Ld} {b z : Option (DataW Unit)} {g : Dir'}, Rd b l z → odMap b → DRel b g → DRel z (dirAll g (l.map (·.c)))
  | [], b, z, g, h, _, hb => by cases h; exact hb
  | c :: r, b, z, g, h, hm, hb => rd_rel (l := r) h.2 (odMap_do hm) (has_do_iff hm h.1 hb)
/-- all blocks that a disk leans on -/
def dall (d : Nat) (x : Dr) (am : Option Am) (es : List En) (k : Nat) : Prop :=
  dmut d x am es k ∨ (∃ c ∈ x.ls, k ∈ c.ro) ∨ (∃ e ∈ es, ∃ c ∈ e.f.ls, k ∈ c.ro) ∨ ∃ a, am = some a ∧ k ∈ a.gl
structure RepX (w : World) (base d : Nat) (s : DS) (N : Nat) (x : Dr) (am : Option Am) (fo : Option (DataW Unit)) (nf : Nat) (es : List En) (lab : Nat → Nat) : Prop where
  dk : Dk w base d x am fo nf s.made es lab
  c0 : x.c0 = .int .i64 s.room
  c1 : x.c1 = .bool s.down
  arm : am.map (fun a => (a.after, a.cs)) = s.arm
  dl : DRel x.last s.dl
  dc : x.ls.map (·.c) = s.dc
  dn : DRel x.now s.dn
  fl : ∀ e ∈ es, FRel e.f (s.fl e.num)
  b1 : s.made ≤ N
  b2 : nf ≤ N
  b3 : x.bl + x.ls.length ≤ N
  b4 : x.bn ≤ N
  b5 : ∀ e ∈ es, e.f.ls.length ≤ N
  fok : ∀ n, FOk (s.fl n)
  b6 : s.room ≤ 9223372036854775807
  b7 : base ≤ w.heap.size
def Rep (w : World) (base d : Nat) (s : DS) (N : Nat) (own : Nat → Prop) : Prop := ∃ x am fo nf es lab, RepX w base d s N x am fo nf es lab ∧ own = dall d x am es
/-- what is not the disk's stays -/
structure Fr (w w' : World) (own own' : Nat → Prop) : Prop where
  os : w'.os = w.os
  tape : w'.tape = w.tape
  output : w'.output = w.output
  size : w.heap.size ≤ w'.heap.size
  block : ∀ k, k < w.heap.size → ¬ own k → w'.heap[k]? = w.heap[k]?
  sub : ∀ k, own' k → own k ∨ w.heap.size ≤ k
theorem Fr.refl (w : World) (own : Nat → Prop) : Fr w w own own := ⟨rfl, rfl, rfl, Nat.le_refl _, fun _ _ _ => rfl, fun _ h => .inl h⟩
theorem Fr.trans {w w1 w2 : World} {o o1 o2 : Nat → Prop} (h : Fr w w1 o o1) (g : Fr w1 w2 o1 o2) : Fr w w2 o o2 :=
  ⟨g.os.trans h.os, g.tape.trans h.tape, g.output.trans h.output, Nat.le_trans h.size g.size, fun k hk hn => (g.block k (Nat.lt_of_lt_of_le hk h.size) (fun h' => (h.sub k h').elim hn (fun h'' => by omega))).trans (h.block k hk hn), fun k hk => (g.sub k hk).elim (h.sub k) (fun h' => .inr (Nat.le_trans h.size h'))⟩
theorem Fr.below {w w' : World} (h : Below w.heap.size w w') (o : Nat → Prop) : Fr w w' o o := ⟨h.os, h.tape, h.output, h.size, fun k hk _ => h.block k hk, fun _ h => .inl h⟩
theorem fr_of {w w' : World} {d : Nat} {x x' : Dr} {am am' : Option Am} {es es' : List En} (h : Kt w w' d x am es x' am' es') (hr : ∀ k, ((∃ c ∈ x'.ls, k ∈ c.ro) ∨ (∃ e ∈ es', ∃ c ∈ e.f.ls, k ∈ c.ro) ∨ ∃ a, am' = some a ∧ k ∈ a.gl) → dall d x am es k ∨ w.heap.size ≤ k) : Fr w w' (dall d x am es) (dall d x' am' es') :=
  ⟨h.os, h.tape, h.output, h.size, fun k hk hn => h.block k hk fun h' => hn (.inl h'), fun k hk => hk.elim (fun h' => (h.sub k h').imp .inl id) (hr k)⟩
theorem RepX.lt {w : World} {base d : Nat} {s : DS} {N : Nat} {x : Dr} {am : Option Am} {fo : Option (DataW Unit)} {nf : Nat} {es : List En} {lab : Nat → Nat} (h : RepX w base d s N x am fo nf es lab) {k : Nat} (hk : dall d x am es k) : k < w.heap.size := by
  rcases hk with hk | ⟨c, hc, hk⟩ | ⟨e, he, c, hc, hk⟩ | ⟨a, ha, hk⟩
  · exact (dmut_lab h.dk hk).2
  · exact ((h.dk.dir.chg c hc).lt k hk).2
  · exact (((h.dk.fil e he).chg c hc).lt k hk).2
  · exact ((h.dk.arm a ha).lt k hk).2
theorem Rep.lt {w : World} {base d : Nat} {s : DS} {N : Nat} {own : Nat → Prop} (h : Rep w base d s N own) {k : Nat} (hk : own k) : k < w.heap.size := by
  obtain ⟨x, am, fo, nf, es, lab, h, rfl⟩ := h
  exact h.lt hk
/-- labels for what a disk leans on alone -/
theorem Dk.relabAll {w : World} {base d : Nat} {x : Dr} {am : Option Am} {fo : Option (DataW Unit)} {nf made : Nat} {es : List En} {lab lab' : Nat → Nat} (h : Dk w base d x am fo nf made es lab) (hl : ∀ k, dall d x am es k → lab' k = lab k) : Dk w base d x am fo nf made es lab' :=
  { h with
    l0 := fun k hk => (hl k (.inl (.inl hk))).trans (h.l0 k hk)
    l1 := fun k hk => (hl k (.inl (.inr (.inl hk)))).trans (h.l1 k hk)
    l2 := fun a ha => (hl a.b (.inl (.inr (.inr (.inl ⟨a, ha, rfl⟩))))).trans (h.l2 a ha)
    l2g := fun a ha k hk => (hl k (.inr (.inr (.inr ⟨a, ha, hk⟩)))).trans (h.l2g a ha k hk)
    l3 := fun c hc k hk => (hl k (.inr (.inl ⟨c, hc, hk⟩))).trans (h.l3 c hc k hk)
    l3e := fun e he c hc k hk => (hl k (.inr (.inr (.inl ⟨e, he, c, hc, hk⟩)))).trans (h.l3e e he c hc k hk)
    l4 := fun e he k hk => (hl k (.inl (.inr (.inr (.inr ⟨e, he, hk⟩))))).trans (h.l4 e he k hk) }
/-- it stays where its blocks stay -/
theorem Dk.keepAll {w w' : World} {base d : Nat} {x : Dr} {am : Option Am} {fo : Option (DataW Unit)} {nf made : Nat} {es : List En} {lab : Nat → Nat} (h : Dk w base d x am fo nf made es lab) (hs : w.heap.size ≤ w'.heap.size) (hb : ∀ k, k < w.heap.size → dall d x am es k → w'.heap[k]? = w.heap[k]?) : Dk w' base d x am fo nf made es lab :=
  { h with
    dir := h.dir.keep (fun k hk => hb k (h.dir.lt k hk).2 (.inl (.inl hk))) (fun c hc k hk => hb k ((h.dir.chg c hc).lt k hk).2 (.inr (.inl ⟨c, hc, hk⟩)))
    fm := h.fm.keep fun k hk => hb k (h.fm.low hk).2 (.inl (.inr (.inl hk)))
    arm := fun a ha => by
      have := h.arm a ha
      obtain ⟨t, hb0⟩ := this.blk
      exact this.keep (hb _ (lt_of_block hb0) (.inl (.inr (.inr (.inl ⟨a, ha, rfl⟩))))) (fun k hk => hb k (this.lt k hk).2 (.inr (.inr (.inr ⟨a, ha, hk⟩)))) hs
    fil := fun e he => (h.fil e he).keep (fun k hk => hb k ((h.fil e he).lt k hk).2 (.inl (.inr (.inr (.inr ⟨e, he, hk⟩))))) (fun c hc k hk => hb k (((h.fil e he).chg c hc).lt k hk).2 (.inr (.inr (.inl ⟨e, he, c, hc, hk⟩)))) }
theorem Rep.keep {w w' : World} {base d : Nat} {s : DS} {N : Nat} {own : Nat → Prop} (h : Rep w base d s N own) (hs : w.heap.size ≤ w'.heap.size) (hb : ∀ k, k < w.heap.size → own k → w'.heap[k]? = w.heap[k]?) : Rep w' base d s N own := by
  obtain ⟨x, am, fo, nf, es, lab, h, rfl⟩ := h
  exact ⟨x, am, fo, nf, es, lab, { h with dk := h.dk.keepAll hs hb, b7 := Nat.le_trans h.b7 hs }, rfl⟩
theorem Rep.below {w w' : World} {base d : Nat} {s : DS} {N : Nat} {own : Nat → Prop} (h : Rep w base d s N own) (hb : Below w.heap.size w w') : Rep w' base d s N own := h.keep hb.size fun k hk _ => hb.block k hk
theorem Rep.mono {w : World} {base d : Nat} {s : DS} {N N' : Nat} {own : Nat → Prop} (h : Rep w base d s N own) (hN : N ≤ N') : Rep w base d s N' own := by
  obtain ⟨x, am, fo, nf, es, lab, h, rfl⟩ := h
  exact ⟨x, am, fo, nf, es, lab, { h with b1 := Nat.le_trans h.b1 hN, b2 := Nat.le_trans h.b2 hN, b3 := Nat.le_trans h.b3 hN, b4 := Nat.le_trans h.b4 hN, b5 := fun e he => Nat.le_trans (h.b5 e he) hN }, rfl⟩
end Go.Proofs.Ytkmohpdcchpndaa

/-
  A disk as the document has it: the power fails.
-/
namespace Go.Proofs.Ytkmohpdcchpndaa
open Go.RowKit Go.Maps
set_option linter.unusedVariables false
set_option linter.unusedSimpArgs false
set_option maxRecDepth 100000
/-- what lasts of a file -/
def lastF (m : FM) (cs : List Int) (i : Nat) : List Int × Nat :=
  match m.chg[(chosen cs i m.chg.length).toNat]? with
  | some c => if c.tears then (c.do (chgAll m.last (m.chg.take (chosen cs i m.chg.length).toNat)) (chosen cs (nxt cs i) c.size).toNat, nxt cs (nxt cs i)) else (chgAll m.last (m.chg.take (chosen cs i m.chg.length).toNat), nxt cs i)
  | none => (chgAll m.last (m.chg.take (chosen cs i m.chg.length).toNat), nxt cs i)
theorem rp_all : ∀ {l : List Lc} {b n : List Int}, Rp b l n → n = chgAll b (l.map (·.c))
  | [], b, n, h => h.1
  | c :: r, b, n, h => rp_all (l := r) h.2
theorem lasts_eq {f : Fs} {m : FM} (hf : FRel f m) {cs : List Int} {i : Nat} {z : List Int} {i' : Nat} (h : Lasts f cs i z i') : (z, i') = lastF m cs i := by
  obtain ⟨k, i1, y, hk, hle, rfl, hr, hc⟩ := h
  obtain ⟨h1, h2, h3⟩ := hf
  have hlen : f.ls.length = m.chg.length := by rw [← h2]; simp
  have hkk : (chosen cs i m.chg.length).toNat = k := by rw [← hlen]; omega
  have hy : y = chgAll m.last (m.chg.take k) := by
    have := rp_all hr
    rw [this, h1, ← h2, List.map_take]
  have hx : m.chg[k]? = (f.ls[k]?).map (·.c) := by rw [← h2, List.getElem?_map]
  unfold lastF
  rw [hkk, hx, ← hy]
  rcases hc with ⟨x, mm, hxx, ht, hm, _, rfl, rfl⟩ | ⟨hn, rfl, rfl⟩
  · rw [hxx]
    simp only [Option.map_some, ht, if_true]
    rw [← hm]
    rfl
  · cases hxx : f.ls[k]? with
    | none => rfl
    | some x =>
      simp only [Option.map_some, hn x hxx]
      rfl
theorem lastF_small {m : FM} (h : FOk m) (cs : List Int) (i : Nat) : (lastF m cs i).1.length ≤ 1048576 := by
  unfold lastF
  generalize (chosen cs i m.chg.length).toNat = k
  have h1 := h.1.at k
  have h2 := h1.small
  cases hx : m.chg[k]? with
  | none => exact h2
  | some c =>
    simp only
    split
    · have hk := (List.getElem?_eq_some_iff.1 hx).1
      rw [List.drop_eq_getElem_cons hk, (List.getElem?_eq_some_iff.1 hx).2] at h1
      obtain ⟨_, hok, h3⟩ := h1
      have h4 := h3.small
      have hr := chosen_range cs (nxt cs i) c.size
      generalize (chosen cs (nxt cs i) c.size) = q at hr ⊢
      cases c with
      | wr at_ p =>
        have hok' : at_ ≤ (chgAll m.last (m.chg.take k)).length := hok
        have h5 : (over (chgAll m.last (m.chg.take k)) at_ (p.take p.length)).length ≤ 1048576 := h4
        rw [over_length _ _ _ hok'] at h5
        show (over (chgAll m.last (m.chg.take k)) at_ (p.take q.toNat)).length ≤ _
        rw [over_length _ _ _ hok']
        simp at h5 ⊢
        omega
      | ct n =>
        show ((chgAll m.last (m.chg.take k)).take n).length ≤ _
        simp; omega
    · exact h2
def updF (fl : Nat → FM) (n : Nat) (m : FM) : Nat → FM := fun k => if k = n then m else fl k
theorem updF_same (fl : Nat → FM) (n : Nat) (m : FM) : updF fl n m n = m := if_pos rfl
theorem updF_other (fl : Nat → FM) {n k : Nat} (m : FM) (h : k ≠ n) : updF fl n m k = fl k := if_neg h
/-- the files that these names have fail one behind the other -/
def failF (g : Dir') (cs : List Int) : List ByteArray → (Nat → FM) → Nat → (Nat → FM) × Nat
  | [], fl, i => (fl, i)
  | nm :: r, fl, i => match g nm with
    | some n => failF g cs r (updF fl n ⟨(lastF (fl n) cs i).1, [], (lastF (fl n) cs i).1⟩) (lastF (fl n) cs i).2
    | none => failF g cs r fl i
theorem failF_ok {g : Dir'} {cs : List Int} : ∀ {ns : List ByteArray} {fl : Nat → FM} {i : Nat}, (∀ n, FOk (fl n)) → ∀ n, FOk ((failF g cs ns fl i).1 n)
  | [], fl, i, h, n => h n
  | nm :: r, fl, i, h, n => by
    unfold failF
    split
    · rename_i m hm
      refine failF_ok (fun k => ?_) n
      by_cases e : k = m
      · subst e; rw [updF_same]; exact ⟨lastF_small (h k) cs i, rfl⟩
      · rw [updF_other _ _ e]; exact h k
    · exact failF_ok h n
theorem fail_eq {now : Option (DataW Unit)} {g : Dir'} (hg : DRel now g) {cs : List Int} : ∀ {ns : List ByteArray} {es es' : List En} {i i' : Nat} {fl : Nat → FM}, FailSeq now cs ns es i es' i' → (∀ e ∈ es, FRel e.f (fl e.num)) → (∀ e ∈ es', FRel e.f ((failF g cs ns fl i).1 e.num)) ∧ i' = (failF g cs ns fl i).2
  | [], es, es', i, i', fl, h, hf => by obtain ⟨rfl, rfl⟩ := h; exact ⟨hf, rfl⟩
  | nm :: r, es, es', i, i', fl, h, hf => by
    obtain ⟨e, he, hh, f', i1, hl, h1, h2, hr⟩ := h
    obtain ⟨k, hk, hek⟩ := (hg nm _).1 hh
    have hek' : e.num = k := by omega
    subst hek'
    have hq := lasts_eq (hf e he) hl
    have hq1 : f'.last = (lastF (fl e.num) cs i).1 := congrArg Prod.fst hq
    have hq2 : i1 = (lastF (fl e.num) cs i).2 := congrArg Prod.snd hq
    unfold failF
    rw [hk]
    simp only
    rw [← hq1, ← hq2]
    refine fail_eq hg hr fun y hy => ?_
    rcases mem_setf hy with ⟨z, hz, hn, rfl⟩ | ⟨hy, hn⟩
    · rw [hn, updF_same]
      exact ⟨rfl, by simp [h2], h1⟩
    · rw [updF_other _ _ hn]
      exact hf y hy
/-- names in their order -/
def Names (g : Dir') (l : List ByteArray) : Prop := l.Nodup ∧ l.Pairwise (fun a b => leB a.data.toList b.data.toList = true) ∧ ∀ nm, nm ∈ l ↔ g nm ≠ none
theorem Names.one {g : Dir'} {l l' : List ByteArray} (h : Names g l) (h' : Names g l') : l = l' := by
  refine List.Perm.eq_of_pairwise (le := fun a b => leB a.data.toList b.data.toList = true) (fun a b _ _ h1 h2 => ?_) h.2.1 h'.2.1 ((List.perm_ext_iff_of_nodup h.1 h'.1).2 fun nm => by rw [h.2.2, h'.2.2])
  simp only [leB, decide_eq_true_eq] at h1 h2
  have := List.le_antisymm h1 h2
  rw [← name_back a, ← name_back b, this]
open Classical in
noncomputable def namesOf (g : Dir') : List ByteArray := if h : ∃ l, Names g l then h.choose else []
theorem namesOf_eq {g : Dir'} {l : List ByteArray} (h : Names g l) : namesOf g = l := by
  have hx : ∃ l, Names g l := ⟨l, h⟩
  unfold namesOf
  rw [dif_pos hx]
  exact hx.choose_spec.one h
theorem namesL_is {w : World} {base : Nat} {mv : Value} {od : Option (DataW Unit)} {n : Nat} (h : Dm w base mv od n) {g : Dir'} (hg : DRel od g) (hnat : ∀ nm num, Has1 od nm num → ∃ k : Nat, num = k) : Names g (namesL od) := by
  refine ⟨?_, ?_, fun nm => ⟨fun hm => ?_, fun hn => ?_⟩⟩
  · rcases h with ⟨_, rfl⟩ | ⟨m, D, e, rfl, _, hown, _⟩
    · exact List.nodup_nil
    · obtain ⟨es, hD, hpw, _⟩ := hown.entries (Go.Maps.string_keyed Try.underlying9)
      obtain ⟨es', hD', hko⟩ := hown.keysOf
      obtain rfl : es = es' := by rw [hD] at hD'; simpa using hD'
      subst hD
      have hnd : (strKeys (.map es : DataW Unit)).Nodup := by
        refine List.pairwise_map.2 (hpw.imp_of_mem fun {p q} hp' hq' hne e => hne ?_)
        obtain ⟨v, hv⟩ := hko p hp'
        obtain ⟨a, _, ha, _⟩ := Maps.keyOf_str Try.underlying9 hv
        obtain ⟨v', hv'⟩ := hko q hq'
        obtain ⟨b, _, hb, _⟩ := Maps.keyOf_str Try.underlying9 hv'
        rw [ha, hb] at e ⊢
        exact congrArg _ e
      have hnd2 : ((strKeys (.map es : DataW Unit)).mergeSort leB).Nodup := (List.mergeSort_perm _ _).nodup_iff.2 hnd
      show (((strKeys (.map es : DataW Unit)).mergeSort leB).map fun l => (⟨l.toArray⟩ : ByteArray)).Nodup
      refine List.pairwise_map.2 (hnd2.imp fun hne e => hne ?_)
      have := congrArg (fun b : ByteArray => b.data.toList) e
      simpa using this
  · rcases h with ⟨_, rfl⟩ | ⟨m, D, e, rfl, _, hown, _⟩
    · exact List.Pairwise.nil
    · have tr : ∀ a b c : List UInt8, leB a b = true → leB b c = true → leB a c = true := fun a b c h1 h2 => by simp only [leB, decide_eq_true_eq] at *; exact List.le_trans h1 h2
      have tot : ∀ a b : List UInt8, (leB a b || leB b a) = true := fun a b => by simp only [leB, Bool.or_eq_true, decide_eq_true_eq]; exact List.le_total a b
      have hp := List.pairwise_mergeSort tr tot (strKeys D)
      show (((strKeys D).mergeSort leB).map fun l => (⟨l.toArray⟩ : ByteArray)).Pairwise _
      exact List.pairwise_map.2 (hp.imp fun h => by simpa using h)
  · obtain ⟨num, hh⟩ := names_mem h hm
    obtain ⟨k, e, _⟩ := (hg nm num).1 hh
    rw [e]; simp
  · cases hq : g nm with
    | none => exact absurd hq hn
    | some k => exact mem_names h (hg.has hq)
/-- a disk whose power has failed -/
noncomputable def crashS (s : DS) (cs : List Int) : DS :=
  let g := dirAll s.dl (s.dc.take (chosen cs 0 s.dc.length).toNat)
  { s with down := true, arm := none, dl := g, dc := [], dn := g, fl := (failF g cs (namesOf g) s.fl (nxt cs 0)).1 }
theorem failseq_ls {now : Option (DataW Unit)} {cs : List Int} : ∀ {ns : List ByteArray} {es es' : List En} {i i' : Nat}, FailSeq now cs ns es i es' i' → ∀ e ∈ es', e ∈ es ∨ e.f.ls = []
  | [], es, es', i, i', h, e, he => by obtain ⟨rfl, _⟩ := h; exact .inl he
  | nm :: r, es, es', i, i', h, e, he => by
    obtain ⟨e0, _, _, f', i1, _, _, h2, hr⟩ := h
    rcases failseq_ls hr e he with h' | h'
    · rcases mem_setf h' with ⟨z, hz, hn, rfl⟩ | ⟨hy, _⟩
      · exact .inr h2
      · exact .inl hy
    · exact .inr h'
theorem dm_size {w : World} {base : Nat} {mv : Value} {od : Option (DataW Unit)} {n : Nat} (h : Dm w base mv od n) : od.elim 0 Go.Maps.size ≤ n := by
  rcases h with ⟨_, rfl⟩ | ⟨m, D, e, rfl, _, ⟨es, clock, hb, F, hs, rfl⟩, _⟩
  · exact Nat.zero_le _
  · simp only [Option.elim_some]
    rw [size_eq, Go.length_sorted]
    simpa using hs
end Go.Proofs.Ytkmohpdcchpndaa
