/-
  The power fails: what the walk of a crash stands on.
-/
import Derived.Test.YtkmohpdcchpndaaDkN
import Derived.Test.YtkmohpdcchpndaaDfail
namespace Go.Proofs.Ytkmohpdcchpndaa
open Go.RowKit Go.Maps
set_option linter.unusedVariables false
set_option linter.unusedSimpArgs false
set_option maxRecDepth 100000
theorem name_back (nm : ByteArray) : (⟨nm.data.toList.toArray⟩ : ByteArray) = nm := by cases nm; simp
theorem names_mem {w : World} {base : Nat} {mv : Value} {od : Option (DataW Unit)} {n : Nat} (h : Dm w base mv od n) {nm : ByteArray} (hm : nm ∈ namesL od) : ∃ num, Has1 od nm num := by
  have hsh := h.shape
  obtain ⟨mo, rfl⟩ := hsh
  have hs : nm.size ≤ maxLen ∧ ∃ D, od = some D ∧ nm.data.toList ∈ strKeys D := by
    rcases h with ⟨_, rfl⟩ | ⟨m, D, e, rfl, _, hown, _⟩
    · simp [namesL] at hm
    · simp only [namesL, Option.elim_some, List.mem_map, List.mem_mergeSort] at hm
      obtain ⟨l, hl, rfl⟩ := hm
      have := strKeys_le hown Try.underlying9 l hl
      exact ⟨by show l.toArray.size ≤ maxLen; simpa using this, D, rfl, by simpa using hl⟩
  obtain ⟨hs, D, e, hk⟩ := hs
  rcases dm_look h nm hs with ⟨num, _, hh, _⟩ | ⟨_, hn⟩
  · exact ⟨num, hh⟩
  · have hf := has_false_of_atKey (hn D e)
    exfalso
    rcases h with ⟨_, e2⟩ | ⟨m, D2, _, e2, _, hown, _⟩
    · rw [e] at e2; cases e2
    · rw [e] at e2; cases e2
      obtain ⟨es, rfl, hko⟩ := hown.keysOf
      obtain ⟨p, hp, hpe⟩ := List.mem_map.1 hk
      obtain ⟨v, hv⟩ := hko p hp
      obtain ⟨y, _, hy, _⟩ := Maps.keyOf_str Try.underlying9 hv
      have : has (.map es) (keyOf nm) = true := by
        rw [has_eq, List.any_eq_true]
        refine ⟨p, hp, ?_⟩
        rw [hy] at hpe ⊢
        simp only [strOf] at hpe
        subst hpe
        simp [Lit.sameKey]
      rw [hf] at this
      cases this
theorem mem_names {w : World} {base : Nat} {mv : Value} {od : Option (DataW Unit)} {n : Nat} (h : Dm w base mv od n) {nm : ByteArray} {num : Int} (hh : Has1 od nm num) : nm ∈ namesL od := by
  obtain ⟨D, rfl, hat⟩ := hh
  have ht := has_true_of_atKey hat
  rcases h with ⟨_, e2⟩ | ⟨m, D2, _, e2, _, hown, _⟩
  · cases e2
  · cases e2
    obtain ⟨es, rfl, hko⟩ := hown.keysOf
    rw [has_eq, List.any_eq_true] at ht
    obtain ⟨p, hp, hs⟩ := ht
    obtain ⟨v, hv⟩ := hko p hp
    obtain ⟨y, _, hy, _⟩ := Maps.keyOf_str Try.underlying9 hv
    simp only [namesL, Option.elim_some, List.mem_map, List.mem_mergeSort]
    refine ⟨nm.data.toList, List.mem_map.2 ⟨p, hp, ?_⟩, name_back nm⟩
    rw [hy] at hs ⊢
    simpa [Lit.sameKey, strOf] using hs
/-- files that fail one behind the other -/
def FailSeq (now : Option (DataW Unit)) (cs : List Int) : List ByteArray → List En → Nat → List En → Nat → Prop
  | [], es, i, es', i' => es' = es ∧ i' = i
  | nm :: r, es, i, es', i' => ∃ e ∈ es, Has1 now nm (e.num : Int) ∧ ∃ f' i1, Lasts e.f cs i f'.last i1 ∧ f'.now = f'.last ∧ f'.ls = [] ∧ FailSeq now cs r (setf es e.num f') i1 es' i'
theorem FailSeq.snoc {now : Option (DataW Unit)} {cs : List Int} {ns : List ByteArray} {es es1 : List En} {i i1 : Nat} (h : FailSeq now cs ns es i es1 i1) {nm : ByteArray} {e : En} (he : e ∈ es1) (hh : Has1 now nm (e.num : Int)) {f' : Fs} {i2 : Nat} (hl : Lasts e.f cs i1 f'.last i2) (h1 : f'.now = f'.last) (h2 : f'.ls = []) : FailSeq now cs (ns ++ [nm]) es i (setf es1 e.num f') i2 := by
  induction ns generalizing es i with
  | nil =>
    obtain ⟨rfl, rfl⟩ := h
    exact ⟨e, he, hh, f', i2, hl, h1, h2, rfl, rfl⟩
  | cons y r ih =>
    obtain ⟨e0, he0, hh0, f0, i0, q1, q2, q3, q4⟩ := h
    exact ⟨e0, he0, hh0, f0, i0, q1, q2, q3, ih q4⟩
theorem Lasts.le {f : Fs} {cs : List Int} {i : Nat} {z : List Int} {i' : Nat} (h : Lasts f cs i z i') (hi : i ≤ cs.length) : i' ≤ cs.length := by
  have nx : ∀ j, j ≤ cs.length → nxt cs j ≤ cs.length := fun j hj => by unfold nxt; split <;> omega
  obtain ⟨k, i1, y, _, _, rfl, _, hc⟩ := h
  rcases hc with ⟨x, m, _, _, _, _, _, rfl⟩ | ⟨_, _, rfl⟩
  · exact nx _ (nx _ hi)
  · exact nx _ hi
theorem Lasts.small {f : Fs} {cs : List Int} {i : Nat} {z : List Int} {i' : Nat} (h : Lasts f cs i z i') (hr : Rp f.last f.ls f.now) : z.length ≤ 1099511627776 := by
  obtain ⟨kk, ii, y, _, hkk, _, hy, hcase⟩ := h
  obtain ⟨y', g1, g2⟩ := hr.at kk hkk
  have e := g1.det hy
  subst e
  have hy1 := g2.small
  rcases hcase with ⟨x, m, hxx, _, _, hm, rfl, _⟩ | ⟨_, rfl, _⟩
  · have hxl := (List.getElem?_eq_some_iff.1 hxx).1
    rw [List.drop_eq_getElem_cons hxl, (List.getElem?_eq_some_iff.1 hxx).2] at g2
    obtain ⟨⟨o1, o2, o3⟩, g3⟩ := g2
    have g4 := g3.small
    cases hxc : x.c with
    | wr at' p' =>
      rw [hxc] at o1 o3 hm g4
      have o1' : at' ≤ y'.length := o1
      have g5 : (over y' at' (p'.take p'.length)).length ≤ 1099511627776 := g4
      rw [over_length _ _ _ o1'] at g5
      show (over y' at' (p'.take m)).length ≤ _
      rw [over_length _ _ _ o1']
      simp at g5 ⊢
      omega
    | ct n' =>
      show (y'.take n').length ≤ _
      simp
      omega
  · exact hy1
theorem Ch.base {w : World} {b b' nb cb i : Nat} {cs : List Int} {gl : List Nat} (h : Ch w b nb cb i cs gl) (hb : b' ≤ b) : Ch w b' nb cb i cs gl := { h with low := by have := h.low; omega, low' := by have := h.low'; omega }
/-- a disk and a chooser beside it -/
structure Cb (w : World) (base d : Nat) (x : Dr) (am : Option Am) (fo : Option (DataW Unit)) (nf made : Nat) (es : List En) (lab : Nat → Nat) (nb cb i : Nat) (cs : List Int) (gl : List Nat) : Prop where
  dk : Dk w base d x am fo nf made es lab
  ch : Ch w base nb cb i cs gl
  ln : lab nb = 5 + made
  nlt : nb < w.heap.size
  lc : ∀ k, (k = cb ∨ k ∈ gl) → lab k = 3 ∧ k < w.heap.size
theorem Cb.start {w w1 : World} {base d : Nat} {x : Dr} {am : Option Am} {fo : Option (DataW Unit)} {nf made : Nat} {es : List En} {lab : Nat → Nat} {nb cb : Nat} {cs : List Int} {gl : List Nat} (h : Dk w base d x am fo nf made es lab) (hb : Below w.heap.size w w1) (hc : Ch w1 w.heap.size nb cb 0 cs gl) (h1 : w.heap.size ≤ nb) (h2 : nb < w1.heap.size) (h3 : w.heap.size ≤ cb) (h4 : cb < w1.heap.size) (hgl : ∀ k ∈ gl, lab k = 3 ∧ k < w.heap.size) (hbase : base ≤ w.heap.size) :
    ∃ lab', Cb w1 base d x am fo nf made es lab' nb cb 0 cs gl := by
  have hne : cb ≠ nb := fun e => by
    obtain ⟨a, cap, h5, _⟩ := hc.cblk
    rw [e, hc.nblk] at h5; cases h5
  refine ⟨fun k => if k < w.heap.size then lab k else if k = nb then 5 + made else 3, ⟨(h.relab fun k hk => by simp [hk]).keep hb.size fun k hk _ => hb.block k hk, hc.base hbase, by simp; omega, h2, fun k hk => ?_⟩⟩
  rcases hk with rfl | hk
  · exact ⟨by simp [hne]; omega, h4⟩
  · have := hgl k hk
    exact ⟨by simp [this.2, this.1], Nat.lt_of_lt_of_le this.2 hb.size⟩
theorem Cb.keepBelow {w w1 : World} {base d : Nat} {x : Dr} {am : Option Am} {fo : Option (DataW Unit)} {nf made : Nat} {es : List En} {lab : Nat → Nat} {nb cb i : Nat} {cs : List Int} {gl : List Nat} (h : Cb w base d x am fo nf made es lab nb cb i cs gl) (hb : Below w.heap.size w w1) : Cb w1 base d x am fo nf made es (relab lab w.heap.size 3) nb cb i cs gl :=
  ⟨h.dk.below hb, h.ch.keep fun k hk => hb.block k (hk.elim (fun e => e ▸ h.nlt) (fun hk => (h.lc k hk).2)), (relab_old h.nlt).trans h.ln, Nat.lt_of_lt_of_le h.nlt hb.size, fun k hk => ⟨(relab_old (h.lc k hk).2).trans (h.lc k hk).1, Nat.lt_of_lt_of_le (h.lc k hk).2 hb.size⟩⟩
theorem Cb.dcc {w : World} {base d : Nat} {x : Dr} {am : Option Am} {fo : Option (DataW Unit)} {nf made : Nat} {es : List En} {lab : Nat → Nat} {nb cb i : Nat} {cs : List Int} {gl : List Nat} (h : Cb w base d x am fo nf made es lab nb cb i cs gl) : Dcc w base d nb cb x i cs gl := by
  refine ⟨h.dk.dir, h.ch, fun k hk => ?_, fun c hc hm => by have := h.dk.l3 c hc nb hm; have := h.ln; omega⟩
  rcases hk with rfl | hk
  · exact ⟨fun hm => by have := h.dk.l0 k hm; have := h.ln; omega, h.nlt⟩
  · exact ⟨fun hm => by have := h.dk.l0 k hm; have := (h.lc k hk).1; omega, (h.lc k hk).2⟩
theorem Cb.fc2 {w : World} {base d : Nat} {x : Dr} {am : Option Am} {fo : Option (DataW Unit)} {nf made : Nat} {es : List En} {lab : Nat → Nat} {nb cb i : Nat} {cs : List Int} {gl : List Nat} (h : Cb w base d x am fo nf made es lab nb cb i cs gl) {e : En} (he : e ∈ es) : Fc2 w base e.b nb cb e.f i cs gl := by
  refine ⟨h.dk.fil e he, h.ch, fun k hk => ?_, fun c hc hm => by have := h.dk.l3e e he c hc nb hm; have := h.ln; omega⟩
  rcases hk with rfl | hk
  · exact ⟨fun hm => by have := h.dk.l4 e he k hm; have := h.ln; have := (h.dk.at_ e he).2; omega, h.nlt⟩
  · exact ⟨fun hm => by have := h.dk.l4 e he k hm; have := (h.lc k hk).1; omega, (h.lc k hk).2⟩
theorem Cb.dfail {w w' : World} {base d : Nat} {x g : Dr} {am : Option Am} {fo : Option (DataW Unit)} {nf made : Nat} {es : List En} {lab : Nat → Nat} {nb cb i i' : Nat} {cs : List Int} {gl : List Nat} (h : Cb w base d x am fo nf made es lab nb cb i cs gl) (o : Dov w w' base d nb cb x g i' cs gl) (hl : DLasts x cs i g.last i') (e1 : g.now = g.last) (e2 : g.ls = []) (e3 : g.c2 = x.c2) (e4 : g.c6 = x.c6) (e5 : g.c7 = x.c7) (hnum : Numbers g es) :
    Cb w' base d g am fo nf made es (relab lab w.heap.size 0) nb cb i' cs gl ∧ KtN nb w w' d x am es g am es := by
  obtain ⟨k1, kt⟩ := h.dk.dirsN (nb := nb) o.st.fil o.turn o.sub h.ln (by rw [e2]; exact e1) e3 e4 e5 hnum (fun c hc => by rw [e2] at hc; cases hc)
  exact ⟨⟨k1, o.st.ch, (relab_old h.nlt).trans h.ln, Nat.lt_of_lt_of_le h.nlt o.turn.size, fun k hk => ⟨(relab_old (h.lc k hk).2).trans (h.lc k hk).1, Nat.lt_of_lt_of_le (h.lc k hk).2 o.turn.size⟩⟩, kt⟩
theorem Cb.file {w w' : World} {base d : Nat} {x : Dr} {am : Option Am} {fo : Option (DataW Unit)} {nf made : Nat} {es : List En} {lab : Nat → Nat} {nb cb i i' : Nat} {cs : List Int} {gl : List Nat} (h : Cb w base d x am fo nf made es lab nb cb i cs gl) {e : En} (he : e ∈ es) {g : Fs} (o : Ov w w' base e.b nb cb e.f g i' cs gl) (hl : Lasts e.f cs i g.last i') (e1 : g.now = g.last) (e2 : g.ls = []) :
    Cb w' base d x am fo nf made (setf es e.num g) (relab lab w.heap.size (4 + e.num)) nb cb i' cs gl ∧ KtN nb w w' d x am es x am (setf es e.num g) := by
  obtain ⟨k1, kt⟩ := h.dk.fileN (nb := nb) he o.st.fil o.turn o.sub h.ln (by rw [e1, e2]; exact ⟨rfl, hl.small (h.dk.rp e he)⟩) (fun c hc => by rw [e2] at hc; cases hc)
  exact ⟨⟨k1, o.st.ch, (relab_old h.nlt).trans h.ln, Nat.lt_of_lt_of_le h.nlt o.turn.size, fun k hk => ⟨(relab_old (h.lc k hk).2).trans (h.lc k hk).1, Nat.lt_of_lt_of_le (h.lc k hk).2 o.turn.size⟩⟩, kt⟩
theorem Cb.forget {w w' : World} {base d : Nat} {x : Dr} {am : Option Am} {fo : Option (DataW Unit)} {nf made : Nat} {es : List En} {lab : Nat → Nat} {nb cb i : Nat} {cs : List Int} {gl : List Nat} (h : Cb w base d x am fo nf made es lab nb cb i cs gl) {mb n : Nat} {D' : DataW Unit} (F : Fgt w w' d x es mb D' n) (hls : x.ls = []) (hnl : x.last = x.now) (hbase : base ≤ w.heap.size) :
    ∃ lab', Cb w' base d { x with c6 := .map (some mb) } am (some D') n made (namedOf es x.now) lab' nb cb i cs gl ∧ Kt w w' d x am es { x with c6 := .map (some mb) } am (namedOf es x.now) := by
  obtain ⟨lab', k1, kt, hlab⟩ := h.dk.forget' F hls hnl hbase
  have hdl := h.dk.l0 d (by simp [Dr.mut])
  refine ⟨lab', ⟨k1, h.ch.keep fun k hk => ?_, (hlab _ h.nlt).trans h.ln, Nat.lt_of_lt_of_le h.nlt F.but.size, fun k hk => ⟨(hlab k (h.lc k hk).2).trans (h.lc k hk).1, Nat.lt_of_lt_of_le (h.lc k hk).2 F.but.size⟩⟩, kt⟩
  rcases hk with rfl | hk
  · exact F.but.block k h.nlt (fun e => by have := h.ln; rw [e, hdl] at this; omega)
  · exact F.but.block k (h.lc k hk).2 (fun e => by have := (h.lc k hk).1; rw [e, hdl] at this; omega)
end Go.Proofs.Ytkmohpdcchpndaa
