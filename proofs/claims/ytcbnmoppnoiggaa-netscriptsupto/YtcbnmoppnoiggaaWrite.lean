/-
  Write, Read.
-/
import Derived.Test.YtcbnmoppnoiggaaPut
namespace Go.Proofs.Ytcbnmoppnoiggaa
open Go.RowKit
set_option linter.unusedVariables false
set_option linter.unusedSimpArgs false
theorem Buf.sl {w : World} {base : Nat} {v : Value} {zs : List Int} (h : Buf w base v zs) : ∃ a n c, v = .slice a n c := by
  obtain ⟨a, c, rfl, _⟩ := h.form
  exact ⟨_, _, _, rfl⟩
theorem Con.bu {w : World} {base : Nat} {c : Cn} (C : Con w base c) (s : Bool) : Buf w base (c.sd s).u (c.sd s).us := by cases s; exact C.u0; exact C.u1
theorem Con.ba {w : World} {base : Nat} {c : Cn} (C : Con w base c) (s : Bool) : Buf w base (c.sd s).a (c.sd s).ar := by cases s; exact C.a0; exact C.a1
set_option maxHeartbeats 400000 in
theorem write_bad (p : Option Addr) (i s E : Int) (ao : Option Addr) (m cp : Nat) (w : World) (h : Calls Try.prog 34 #[.pointer p, .int .i64 i, .int .i64 s, .int .i64 m] w fun e w' => w' = w ∧ e = .returned (.tuple #[.pointer none, .int .i64 E])) (hE : E ≠ 0) :
    Calls Try.prog 14 #[.pointer p, .int .i64 i, .int .i64 s, .slice ao m cp] w fun e w' => w' = w ∧ e = .returned (.int .i64 E) := by
  go_enter Try.func14, Try.ntmps14
  go_wp2_with fail
  refine h.mono ?_
  rintro e w1 ⟨h1, rfl⟩
  subst h1
  go_wp2_with fail
  go_ret
  exact ⟨rfl, rfl⟩
set_option maxHeartbeats 400000 in
theorem write_ok (base : Nat) (c : Cn) (p : Option Addr) (i : Int) (s : Bool) (ao : Option Addr) (m cp : Nat) (ps : List Int) (w : World) (C : Con w base c) (hnd : c.blocks.Nodup) (h : Calls Try.prog 34 #[.pointer p, .int .i64 i, .int .i64 (sI s), .int .i64 m] w fun e w' => w' = w ∧ e = .returned (.tuple #[.pointer (some ⟨c.k, sO s, none⟩), .int .i64 0]))
    (hl : ps.length = m) (hb : ao = none → cp = 0) (hp : Has w ao ps) (ho : Octets ps) (hsm : (c.sd s).us.length + m ≤ 140737488355328) :
    Calls Try.prog 14 #[.pointer p, .int .i64 i, .int .i64 (sI s), .slice ao m cp] w fun e w' => e = .returned (.int .i64 0) ∧ ∃ v', Chg w w' base c (c.set s ((c.sd s).putU v' ((c.sd s).us ++ ps))) := by
  obtain ⟨i0, hi, hz0, hz1, hz2⟩ := info_parts Try.info5
  have hB := C.bu s
  have hcu : w.cell? ⟨c.k, sO s, none⟩ = some (c.sd s).u := by rw [C.cell]; cases s <;> rfl
  have hfz : w.frozen? ⟨c.k, sO s, none⟩ = false := by simp [World.frozen?, C.blk]
  have hbase : base ≤ w.heap.size := Nat.le_trans C.low (Nat.le_of_lt (lt_of_block C.blk))
  have hlk := lt_of_block C.blk
  have hne : (c.sd s).u.ownBlock ≠ some c.k := hB.ne C.blk (by decide)
  obtain ⟨u0, hu0⟩ : ∃ u0, (c.sd s).u = u0 := ⟨_, rfl⟩
  obtain ⟨o0, ho0⟩ : ∃ o0, sO s = o0 := ⟨_, rfl⟩
  have HU : Hid ((c.sd s).u = u0) := hu0
  have HO : Hid (sO s = o0) := ho0
  have hP : Hid (Has w ao ps) := hp
  rw [hu0] at hcu hB hne
  rw [ho0] at hcu hfz h
  have HB : Hid (Buf w base u0 (c.sd s).us) := hB
  clear hu0 ho0 hp hB
  go_enter Try.func14, Try.ntmps14
  go_wp2_with fail
  refine h.mono ?_
  rintro e w1 ⟨h1, rfl⟩
  subst h1
  go_wp2_with (at_builtin; refine wpList_append_buf _ rfl (.tmp 27) (.tmp 28) 32 rfl base i0 Try.underlying32 hi hz0 hz1 hz2 u0 (c.sd s).us rfl HB.out ao m cp ps rfl hl hb hP.out ho hsm hbase ?_; intro v' w2 hB2 hg2 hat2; obtain ⟨av, nv, cv, rfl⟩ := hB2.sl; have hcu2 : w2.cell? ⟨c.k, o0, none⟩ = some u0 := (hg2.cell_far _ hlk (fun e => hne e.symm)).trans hcu; have hfz2 : w2.frozen? ⟨c.k, o0, none⟩ = false := (hg2.frozen_far _ hlk (fun e => hne e.symm)).trans hfz)
  go_ret
  rw [← HO.out]
  rw [← HU.out] at hg2 hat2
  exact ⟨rfl, _, chg_u C hnd s _ _ hg2 hB2 hat2⟩
theorem Chg.drew {w w' : World} {base : Nat} {c c' : Cn} (h : Chg w w' base c c') : Chg w w'.drew base c c' :=
  ⟨h.con.keep fun _ _ => rfl, h.k, h.turn.trans (Turn.drew _) (fun _ h => by cases h), h.nod, h.sub⟩
set_option maxHeartbeats 400000 in
theorem read_bad (p : Option Addr) (i s E : Int) (w : World) (h : Bad w p i s 0 E) (hE : E ≠ 0) :
    Calls Try.prog 16 #[.pointer p, .int .i64 i, .int .i64 s] w fun e w' => w' = w ∧ e = .returned (.tuple #[.slice none 0 0, .bool false, .int .i64 E]) := by
  go_enter Try.func16, Try.ntmps16
  go_wp2_with fail
  refine h.mono ?_
  rintro e w1 ⟨h1, rfl⟩
  subst h1
  go_wp2_with fail
  go_ret3
  exact ⟨rfl, rfl⟩
set_option maxHeartbeats 400000 in
theorem read_ok (base : Nat) (c : Cn) (p : Option Addr) (i : Int) (s : Bool) (w : World) (h : Good w p i (sI s) 0 c.k) (C : Con w base c) (hnd : c.blocks.Nodup) :
    Calls Try.prog 16 #[.pointer p, .int .i64 i, .int .i64 (sI s)] w fun e w' => e = .returned (.tuple #[(c.sd s).a, .bool (c.sd (!s)).to, .int .i64 0]) ∧ Chg w w' base c (c.set s ((c.sd s).putA (.slice none 0 0) [])) ∧ Turn w w' [c.k] := by
  obtain ⟨av, nv, cv, hav⟩ := (C.ba s).sl
  have hca : w.cell? ⟨c.k, sO s + 1, none⟩ = some (.slice av nv cv) := by rw [← hav, C.cell]; cases s <;> rfl
  have hfz : w.frozen? ⟨c.k, sO s + 1, none⟩ = false := by simp [World.frozen?, C.blk]
  have hct : w.cell? ⟨c.k, sO (!s) + 3, none⟩ = some (.bool (c.sd (!s)).to) := by rw [C.cell]; cases s <;> rfl
  obtain ⟨t0, ht0⟩ : ∃ t0, (c.sd (!s)).to = t0 := ⟨_, rfl⟩
  rw [ht0] at hct
  rw [hav, ht0]
  clear hav ht0
  have HC : Hid (∀ w1, w1 = w.setCell ⟨c.k, sO s + 1, none⟩ (.slice none 0 0) → Chg w w1 base c (c.set s ((c.sd s).putA (.slice none 0 0) [])) ∧ Turn w w1 [c.k]) := fun w1 h => h ▸ ⟨chg_a C hnd s _ [] (grown_refl _ _) (Buf.nil _ _) (.inr fun g h => by cases h), Turn.setCell _ _ _ _⟩
  clear C hnd
  cases s <;> simp only [sO, sI, Bool.not_false, Bool.not_true] at hca hfz hct h HC ⊢ <;> simp only [if_true, if_false, reduceIte, Bool.false_eq_true, Nat.reduceAdd] at hca hfz hct h HC ⊢
  · go_enter Try.func16, Try.ntmps16
    go_wp2_with fail
    refine h.mono ?_
    rintro e w1 ⟨h1, rfl⟩
    subst h1
    go_wp2_with fail
    go_region
    go_wp2_with fail
    have h2 := And.intro (HC.out _ rfl).1.drew ((HC.out _ rfl).2.trans (Turn.drew _) (fun _ h => by cases h))
    have hct2 : (w1.setCell ⟨c.k, 4, none⟩ (.slice none 0 0)).drew.cell? ⟨c.k, 10, none⟩ = some (.bool t0) := by
      rw [World.cell?_drew, World.cell?_setCell_other w1 _ _ _ (fun h => by cases h), hct]
    obtain ⟨w2, hw2⟩ : ∃ W, (w1.setCell ⟨c.k, 4, none⟩ (.slice none 0 0)).drew = W := ⟨_, rfl⟩
    rw [hw2] at h2 hct2 ⊢
    have H2 : Hid (Chg w1 w2 base c (c.set false ((c.sd false).putA (.slice none 0 0) [])) ∧ Turn w1 w2 [c.k]) := h2
    clear h2 hw2
    go_region
    go_wp2_with fail
    go_ret3
    exact ⟨rfl, H2.out.1.drew, H2.out.2.trans (Turn.drew _) (fun _ h => by cases h)⟩
  · go_enter Try.func16, Try.ntmps16
    go_wp2_with fail
    refine h.mono ?_
    rintro e w1 ⟨h1, rfl⟩
    subst h1
    go_wp2_with fail
    go_region
    go_wp2_with fail
    have h2 := And.intro (HC.out _ rfl).1.drew ((HC.out _ rfl).2.trans (Turn.drew _) (fun _ h => by cases h))
    have hct2 : (w1.setCell ⟨c.k, 8, none⟩ (.slice none 0 0)).drew.cell? ⟨c.k, 6, none⟩ = some (.bool t0) := by
      rw [World.cell?_drew, World.cell?_setCell_other w1 _ _ _ (fun h => by cases h), hct]
    obtain ⟨w2, hw2⟩ : ∃ W, (w1.setCell ⟨c.k, 8, none⟩ (.slice none 0 0)).drew = W := ⟨_, rfl⟩
    rw [hw2] at h2 hct2 ⊢
    have H2 : Hid (Chg w1 w2 base c (c.set true ((c.sd true).putA (.slice none 0 0) [])) ∧ Turn w1 w2 [c.k]) := h2
    clear h2 hw2
    go_region
    go_wp2_with fail
    go_ret3
    exact ⟨rfl, H2.out.1.drew, H2.out.2.trans (Turn.drew _) (fun _ h => by cases h)⟩
end Go.Proofs.Ytcbnmoppnoiggaa
