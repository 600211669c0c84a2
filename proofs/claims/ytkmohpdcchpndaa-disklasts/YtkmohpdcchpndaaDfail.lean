/-
  The power fails: what of the directory is kept.
-/
import Derived.Test.YtkmohpdcchpndaaDsync
namespace Go.Proofs.Ytkmohpdcchpndaa
open Go.RowKit
set_option linter.unusedVariables false
set_option linter.unusedSimpArgs false
set_option maxRecDepth 100000
/-- the directory and a chooser, apart -/
structure Dcc (w : World) (base b nb cb : Nat) (f : Dr) (i : Nat) (cs : List Int) (gl : List Nat) : Prop where
  fil : Dir w base b f
  ch : Ch w base nb cb i cs gl
  ap : ∀ k, (k = nb ∨ k = cb ∨ k ∈ gl) → k ∉ f.mut b ∧ k < w.heap.size
  apr : ∀ c ∈ f.ls, nb ∉ c.ro
theorem Dcc.chose {w w1 : World} {base b nb cb : Nat} {f : Dr} {i i' : Nat} {cs : List Int} {gl : List Nat} (h : Dcc w base b nb cb f i cs gl) (hc : Ch w1 base nb cb i' cs gl) (ht : Turn w w1 [nb]) : Dcc w1 base b nb cb f i' cs gl :=
  ⟨h.fil.keep (fun k hk => ht.block k (h.fil.lt k hk).2 (by simp; intro e; exact (h.ap nb (.inl rfl)).1 (e ▸ hk))) (fun c hm k hk => ht.block k ((h.fil.chg c hm).lt k hk).2 (by simp; intro e; exact h.apr c hm (e ▸ hk))), hc, fun k hk => ⟨(h.ap k hk).1, Nat.lt_of_lt_of_le (h.ap k hk).2 ht.size⟩, h.apr⟩
theorem Dcc.turned {w w1 : World} {base b nb cb : Nat} {f g : Dr} {i : Nat} {cs : List Int} {gl : List Nat} (h : Dcc w base b nb cb f i cs gl) (ht : Dt w w1 base b f g) (hl : ∀ c ∈ g.ls, c ∈ f.ls) : Dcc w1 base b nb cb g i cs gl :=
  ⟨ht.fil, h.ch.keep (fun k hk => ht.turn.block k (h.ap k hk).2 (h.ap k hk).1), fun k hk => ⟨fun hm => (ht.sub k hm).elim (h.ap k hk).1 (fun h' => by have := (h.ap k hk).2; omega), Nat.lt_of_lt_of_le (h.ap k hk).2 ht.turn.size⟩, fun c hc => h.apr c (hl c hc)⟩
/-- where fail stands -/
structure Dov (w w' : World) (base b nb cb : Nat) (f g : Dr) (i' : Nat) (cs : List Int) (gl : List Nat) : Prop where
  st : Dcc w' base b nb cb g i' cs gl
  turn : Turn w w' (nb :: f.mut b)
  sub : ∀ k ∈ g.mut b, k ∈ f.mut b ∨ w.heap.size ≤ k
theorem Dov.start {w : World} {base b nb cb : Nat} {f : Dr} {i : Nat} {cs : List Int} {gl : List Nat} (h : Dcc w base b nb cb f i cs gl) : Dov w w base b nb cb f f i cs gl := ⟨h, Turn.refl _ _, fun _ h => .inl h⟩
theorem Dov.chose {w w1 w2 : World} {base b nb cb : Nat} {f g : Dr} {i i' : Nat} {cs : List Int} {gl : List Nat} (h : Dov w w1 base b nb cb f g i cs gl) (hc : Ch w2 base nb cb i' cs gl) (ht : Turn w1 w2 [nb]) : Dov w w2 base b nb cb f g i' cs gl :=
  ⟨h.st.chose hc ht, h.turn.trans ht (fun k hk => .inl (by simp at hk; simp [hk])), h.sub⟩
theorem Dov.turned {w w1 w2 : World} {base b nb cb : Nat} {f g g' : Dr} {i : Nat} {cs : List Int} {gl : List Nat} (h : Dov w w1 base b nb cb f g i cs gl) (ht : Dt w1 w2 base b g g') (hl : ∀ c ∈ g'.ls, c ∈ g.ls) : Dov w w2 base b nb cb f g' i cs gl :=
  ⟨h.st.turned ht hl, h.turn.trans ht.turn (fun k hk => (h.sub k hk).imp (fun h' => by simp [h']) id), fun k hk => (ht.sub k hk).elim (h.sub k) (fun h' => .inr (Nat.le_trans h.turn.size h'))⟩
theorem Dov.below {w w1 w2 : World} {base b nb cb : Nat} {f g : Dr} {i : Nat} {cs : List Int} {gl : List Nat} (h : Dov w w1 base b nb cb f g i cs gl) (hB : Below w1.heap.size w1 w2) : Dov w w2 base b nb cb f g i cs gl :=
  h.turned ⟨h.st.fil.below fun k hk => hB.block k hk, ⟨hB.os, hB.tape, hB.output, hB.size, fun k hk _ => hB.block k hk⟩, fun _ h => .inl h⟩ (fun _ h => h)
/-- what lasts of the directory behind it -/
def DLasts (f : Dr) (cs : List Int) (i : Nat) (z : Option (DataW Unit)) (i' : Nat) : Prop := ∃ k : Nat, (k : Int) = chosen cs i f.ls.length ∧ k ≤ f.ls.length ∧ Rd f.last (f.ls.take k) z ∧ i' = nxt cs i
structure DKept (w w2 : World) (base b nb cb : Nat) (f : Dr) (i : Nat) (cs : List Int) (gl : List Nat) (k i1 : Nat) (g : Dr) : Prop where
  ov : Dov w w2 base b nb cb f g i1 cs gl
  ls : g.ls = f.ls
  lo : g.lo = f.lo
  bl : g.bl ≤ f.bl + f.ls.length
  oth : g.c0 = f.c0 ∧ g.c1 = f.c1 ∧ g.c2 = f.c2 ∧ g.c6 = f.c6 ∧ g.c7 = f.c7
  la : DLasts f cs i g.last i1
  le : k ≤ f.ls.length
theorem dkeep_calls (w : World) (base b nb cb : Nat) (f : Dr) (i : Nat) (cs : List Int) (gl : List Nat) (h : Dcc w base b nb cb f i cs gl) (hr : Rd f.last f.ls f.now) (hls : f.ls.length ≤ 1000000000) (hbl : f.bl + f.ls.length < 1000000000) (hi : i ≤ 17592186044000) (hbase : base ≤ w.heap.size) :
    Calls Try.prog 62 #[.int .i64 (f.ls.length : Nat), .pointer (some ⟨nb, 0, none⟩), .pointer (some ⟨cb, 0, none⟩)] w fun e w1 => ∃ k : Nat, e = .returned (.int .i64 k) ∧ k ≤ f.ls.length ∧ Calls Try.prog 58 #[.pointer (some ⟨b, 3, none⟩), .int .i64 k] w1 fun e w2 => e = .returned (.tuple #[]) ∧ ∃ i1 g, DKept w w2 base b nb cb f i cs gl k i1 g := by
  refine (choose_any w base nb cb i cs gl f.ls.length h.ch (by omega) (by omega)).mono ?_
  rintro e w1 ⟨rfl, ⟨i1, hi1, hi2, hc⟩, ht⟩
  have hrg := chosen_range cs i f.ls.length
  obtain ⟨k, hk⟩ : ∃ k : Nat, (k : Int) = chosen cs i f.ls.length := ⟨(chosen cs i f.ls.length).toNat, by omega⟩
  obtain ⟨y, hy, _⟩ := hr.at k (by omega)
  have o1 := (Dov.start h).chose hc ht
  refine ⟨k, by rw [hk], by omega, (dkeep_any w1 base b f k y o1.st.fil (by omega) hy hls (by omega) (Nat.le_trans hbase ht.size)).mono ?_⟩
  rintro e w2 ⟨rfl, g, hK, hz⟩
  exact ⟨rfl, i1, g, o1.turned hK.ft (fun c hc => by rw [hK.ls] at hc; exact hc), hK.ls, hK.lo, by have := hK.bl; omega, hK.oth, ⟨k, hk, by omega, by rw [hz]; exact hy, hi2⟩, by omega⟩
theorem Dov.fin {w W w1 : World} {base b nb cb : Nat} {f g : Dr} {i : Nat} {cs : List Int} {gl : List Nat} {v : Value} (h : Dov w W base b nb cb f g i cs gl) (hB : Dm w1 W.heap.size v g.last g.bl) (hb : Below W.heap.size W w1) (hbase : base ≤ W.heap.size) :
    w1.heap[b]? = some (.cells #[g.c0, g.c1, g.c2, g.lv, g.lo, g.nv, g.c6, g.c7] 69 (0, 0)) ∧ ∃ g', Dov w ((w1.setCell ⟨b, 4, none⟩ (.slice none 0 0)).setCell ⟨b, 5, none⟩ v) base b nb cb f g' i cs gl ∧ g'.last = g.last ∧ g'.now = g.last ∧ g'.ls = [] ∧ g'.bn = g.bl ∧ g'.bl = g.bl ∧ g'.c0 = g.c0 ∧ g'.c1 = g.c1 ∧ g'.c2 = g.c2 ∧ g'.c6 = g.c6 ∧ g'.c7 = g.c7 := by
  have hb1 : w1.heap[b]? = some (.cells #[g.c0, g.c1, g.c2, g.lv, g.lo, g.nv, g.c6, g.c7] 69 (0, 0)) := (hb.block b (lt_of_block h.st.fil.blk)).trans h.st.fil.blk
  have hB' : Dm w1 base v g.last g.bl := by
    rcases hB with h' | ⟨m, D, e1, e2, h1, h2⟩
    · exact .inl h'
    · exact .inr ⟨m, D, e1, e2, Nat.le_trans hbase h1, h2⟩
  have f1 := dnow_turn h.st.fil hB' (⟨hb.os, hb.tape, hb.output, hb.size, fun k hk _ => hb.block k hk⟩ : W.grownBy w1 (mblk g.nv)) (.inr fun k hk => (hB.low hk).1)
  have f2 := dloose_none f1.fil
  refine ⟨hb1, { g with nv := v, now := g.last, bn := g.bl, lo := .slice none 0 0, ls := [] }, ?_, rfl, rfl, rfl, rfl, rfl, rfl, rfl, rfl, rfl, rfl⟩
  rw [setCell_comm hb1 (by decide)]
  exact (h.turned f1 (fun _ h => h)).turned f2 (fun c hc => by cases hc)
abbrev DFin (w w' : World) (base b nb cb : Nat) (f : Dr) (i : Nat) (cs : List Int) (gl : List Nat) : Prop := ∃ g i', Dov w w' base b nb cb f g i' cs gl ∧ DLasts f cs i g.last i' ∧ g.now = g.last ∧ g.ls = [] ∧ g.bn = g.bl ∧ g.bl ≤ f.bl + f.ls.length ∧ g.c0 = f.c0 ∧ g.c1 = f.c1 ∧ g.c2 = f.c2 ∧ g.c6 = f.c6 ∧ g.c7 = f.c7
theorem dfin_call {w W : World} {base b nb cb : Nat} {f g : Dr} {i k i1 : Nat} {cs : List Int} {gl : List Nat} (h : DKept w W base b nb cb f i cs gl k i1 g) (hbase : base ≤ w.heap.size) :
    ∃ mo, W.cell? ⟨b, 3, none⟩ = some (.map mo) ∧ Calls Try.prog 40 #[.map mo] W fun e w1 => ∃ m1, e = .returned (.map m1) ∧ w1.cell? ⟨b, 4, none⟩ = some g.lo ∧ w1.frozen? ⟨b, 4, none⟩ = false ∧ w1.cell? ⟨b, 5, none⟩ = some g.nv ∧ w1.frozen? ⟨b, 5, none⟩ = false ∧ DFin w ((w1.setCell ⟨b, 4, none⟩ (.slice none 0 0)).setCell ⟨b, 5, none⟩ (.map m1)) base b nb cb f i cs gl := by
  obtain ⟨mo, hlv⟩ := h.ov.st.fil.last.shape
  have hbk := h.ov.st.fil.blk
  have hl := h.ov.st.fil.last
  rw [hlv] at hbk hl
  refine ⟨mo, by rw [cell_block hbk]; rfl, (mclone_any W base mo g.last g.bl hl).mono ?_⟩
  rintro e w1 ⟨m1, rfl, hB, hb⟩
  obtain ⟨hb1, g', q1, q2, q3, q4, q5, q6, q7, q8, q9, q10, q11⟩ := h.ov.fin hB hb (Nat.le_trans hbase h.ov.turn.size)
  obtain ⟨o1, o2, o3, o4, o5⟩ := h.oth
  exact ⟨m1, rfl, by rw [cell_block hb1]; rfl, by simp [World.frozen?, hb1], by rw [cell_block hb1]; rfl, by simp [World.frozen?, hb1], g', i1, q1, by rw [q2]; exact h.la, by rw [q3, q2], q4, by rw [q5, q6], by rw [q6]; exact h.bl, q7.trans o1, q8.trans o2, q9.trans o3, q10.trans o4, q11.trans o5⟩
theorem dkept_cells {w w2 : World} {base b nb cb : Nat} {f g : Dr} {i k i1 : Nat} {cs : List Int} {gl : List Nat} (h : DKept w w2 base b nb cb f i cs gl k i1 g) (hk : k < f.ls.length) : ∃ r c, f.lo = .slice (some ⟨r, 0, none⟩) f.ls.length c ∧ w2.cell? ⟨r, k * 3 + 2, none⟩ = some (.bool false) := by
  have hr := h.ov.st.fil.row
  rw [h.ls, h.lo] at hr
  rcases hr.2 with ⟨_, h0⟩ | ⟨r, c, cur, e, _⟩
  · omega
  · rw [e] at hr
    obtain ⟨_, _, e3⟩ := rowOfD_get f.ls k _ (List.getElem?_eq_getElem hk)
    exact ⟨r, c, e, (hr.cellAt _ (by omega)).trans e3⟩
set_option maxHeartbeats 4000000 in
theorem dfail_any (w : World) (base b nb cb : Nat) (f : Dr) (i : Nat) (cs : List Int) (gl : List Nat) (h : Dcc w base b nb cb f i cs gl) (hr : Rd f.last f.ls f.now) (hls : f.ls.length ≤ 1000000000) (hbl : f.bl + f.ls.length < 1000000000) (hi : i ≤ 17592186044000) (hbase : base ≤ w.heap.size) :
    Calls Try.prog 39 #[.pointer (some ⟨b, 3, none⟩), .func (.func 62) #[] #[.pointer (some ⟨nb, 0, none⟩), .pointer (some ⟨cb, 0, none⟩)], .func (.func 40) #[] #[]] w fun e w' => e = .returned (.tuple #[]) ∧ DFin w w' base b nb cb f i cs gl := by
  obtain ⟨a0, k0, hlo⟩ := own_slice h.fil.row
  have hbk := h.fil.blk
  rw [hlo] at hbk
  have HC := dkeep_calls w base b nb cb f i cs gl h hr hls hbl hi hbase
  obtain ⟨L, hL⟩ : ∃ L, f.ls.length = L := ⟨_, rfl⟩
  rw [hL] at hbk HC hls
  have c1 : w.cell? ⟨b, 4, none⟩ = some (.slice a0 L k0) := by rw [cell_block hbk]; rfl
  have HK : Hid (∀ w2 k i1 g, DKept w w2 base b nb cb f i cs gl k i1 g → w2.cell? ⟨b, 4, none⟩ = some (.slice a0 L k0)) := fun w2 k i1 g hk => by
    have := hk.ov.st.fil.blk
    rw [hk.lo, hlo, hL] at this
    rw [cell_block this]; rfl
  have HCC : Hid (Calls Try.prog 62 #[.int .i64 (L : Nat), .pointer (some ⟨nb, 0, none⟩), .pointer (some ⟨cb, 0, none⟩)] w fun e w1 => ∃ k : Nat, e = .returned (.int .i64 k) ∧ k ≤ L ∧ Calls Try.prog 58 #[.pointer (some ⟨b, 3, none⟩), .int .i64 k] w1 fun e w2 => e = .returned (.tuple #[]) ∧ ∃ i1 g, DKept w w2 base b nb cb f i cs gl k i1 g) := HC
  have HX : Hid (f.ls.length = L ∧ f.lo = .slice a0 L k0 ∧ base ≤ w.heap.size) := ⟨hL, by rw [← hL]; exact hlo, hbase⟩
  clear HC h hr hbk hlo hL hbase hbl
  go_enter Try.func39, Try.ntmps39
  go_upto_region 2 with (first | (go_at_call 62; refine HCC.out.mono ?_; rintro e w1 ⟨k, rfl, hk, hc⟩; have HC2 : Hid (Calls Try.prog 58 #[.pointer (some ⟨b, 3, none⟩), .int .i64 k] w1 fun e w2 => e = .returned (.tuple #[]) ∧ ∃ i1 g, DKept w w2 base b nb cb f i cs gl k i1 g) := hc; clear hc) | (go_at_call 58; refine HC2.out.mono ?_; rintro e w2 ⟨rfl, i1, g, hK⟩; have HKp : Hid (DKept w w2 base b nb cb f i cs gl k i1 g) := hK; have c2 := HK.out w2 k i1 g hK; clear hK))
  have k0' : (0 : Int) ≤ k := by omega
  obtain ⟨mo, l5, hf5⟩ := dfin_call HKp.out HX.out.2.2
  obtain ⟨a1, kk1, hlo1⟩ := own_slice HKp.out.ov.st.fil.row
  obtain ⟨mn, hnv1⟩ := HKp.out.ov.st.fil.now.shape
  rw [hlo1, hnv1] at hf5
  obtain ⟨n1, hn1⟩ : ∃ n1, g.ls.length = n1 := ⟨_, rfl⟩
  rw [hn1] at hf5
  have HF5 : Hid (Calls Try.prog 40 #[.map mo] w2 fun e w1 => ∃ m1, e = .returned (.map m1) ∧ w1.cell? ⟨b, 4, none⟩ = some (.slice a1 n1 kk1) ∧ w1.frozen? ⟨b, 4, none⟩ = false ∧ w1.cell? ⟨b, 5, none⟩ = some (.map mn) ∧ w1.frozen? ⟨b, 5, none⟩ = false ∧ DFin w ((w1.setCell ⟨b, 4, none⟩ (.slice none 0 0)).setCell ⟨b, 5, none⟩ (.map m1)) base b nb cb f i cs gl) := hf5
  clear hf5 hlo1 hnv1 hn1
  by_cases hkL : k < L
  · have hkl : (k : Int) < L := by omega
    obtain ⟨r, kc, hlo2, d2⟩ := dkept_cells HKp.out (by have := HX.out.1; omega)
    have hr0 : a0 = some ⟨r, 0, none⟩ := by
      have := HX.out.2.1
      rw [hlo2] at this
      injection this with this
      exact this.symm
    subst hr0
    clear hlo2
    go_wp2_with (first | (go_at_call 40; refine HF5.out.mono ?_; rintro e w6 ⟨m6, rfl, y0, y1, y2, y3, hg6⟩; have HG6 : Hid (DFin w ((w6.setCell ⟨b, 4, none⟩ (.slice none 0 0)).setCell ⟨b, 5, none⟩ (.map m6)) base b nb cb f i cs gl) := hg6; clear hg6))
    go_end0
    exact ⟨rfl, HG6.out⟩
  · have hkl : ¬ (k : Int) < L := by omega
    go_wp2_with (first | (go_at_call 40; refine HF5.out.mono ?_; rintro e w6 ⟨m6, rfl, y0, y1, y2, y3, hg6⟩; have HG6 : Hid (DFin w ((w6.setCell ⟨b, 4, none⟩ (.slice none 0 0)).setCell ⟨b, 5, none⟩ (.map m6)) base b nb cb f i cs gl) := hg6; clear hg6))
    go_end0
    exact ⟨rfl, HG6.out⟩
end Go.Proofs.Ytkmohpdcchpndaa
