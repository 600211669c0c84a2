/-
  moved: a node, in new memory, its kids so many less.
-/
import Derived.Test.YtgododijnogegaaFl
import Derived.Test.YtgododijnogegaaShf
import Derived.Deep.RegionHeld3
namespace Go.Proofs.Ytgododijnogegaa
open Go.RowKit
set_option linter.unusedVariables false
set_option linter.unusedSimpArgs false
set_option maxRecDepth 100000
theorem clone_any (s : ByteArray) (w : World) (hs : s.size ≤ 281474976710656) :
    Calls Try.prog 40 #[.string s] w fun e w' => e = .returned (.string s) ∧ Below w.heap.size w w' := by
  go_enter Try.func40, Try.ntmps40
  go_wp2_with (go_at_call 49; refine (Try.stringslite_Clone _ _ hs).mono ?_; rintro e w' ⟨rfl, hb⟩)
  go_ret
  exact ⟨rfl, hb⟩
theorem Try.info3' : (Try.prog.info? 3).map (fun i => (i.zero, i.size, i.bytes)) = some (some (.int .i64 0), 1, 8) := by kernel_rfl
theorem iV_append (a b : List Int) : iV (a ++ b) = iV a ++ iV b := by simp [iV]
/-- a node's copy under way -/
structure Mw (w wr : World) (o : Nx) (d : Int) (i : Nat) (v : Value) : Prop where
  own : wr.ownsRow (w.heap.size + 2) 3 1 v i (iV ((o.ks.take i).map (· - d)))
  bel : Below w.heap.size w wr
  b0 : wr.heap[w.heap.size]? = some (.cells o.row.toArray 51 (0, 0))
  b1 : wr.heap[w.heap.size + 1]? = some (.cells #[.int .i64 0, .string ⟨#[]⟩, .string ⟨#[]⟩, .bool false, .int .i64 0, .slice none 0 0] 51 (0, 0))
theorem Mw.lt {w wr : World} {o : Nx} {d : Int} {i : Nat} {v : Value} (h : Mw w wr o d i v) : w.heap.size + 2 ≤ wr.heap.size := by
  have := (Array.getElem?_eq_some_iff.1 h.b1).1; omega
theorem Mw.more {w wr w3 : World} {o : Nx} {d k : Int} {i : Nat} {v v3 : Value} {ob : Obj} (h : Mw w wr o d i v) (hk : o.ks[i]? = some k) (hown : w3.ownsRow (w.heap.size + 2) 3 1 v3 (i + 1) (iV ((o.ks.take i).map (· - d)) ++ [.int .i64 (k - d)])) (hg : (wr.alloc ob).grownBy w3 v.ownBlock) : Mw w w3 o d (i + 1) v3 := by
  have hl := h.lt
  have hb : ∀ j, j < w.heap.size + 2 → w3.heap[j]? = wr.heap[j]? := fun j hj => (hg.block j (by simp; omega) (fun e => by have := (h.own.lt j e.symm).1; omega)).trans (Below.heap_alloc wr ob j (by omega))
  refine ⟨?_, h.bel.trans ⟨hg.os, hg.tape, hg.output, Nat.le_trans (by simp) hg.size, fun j hj => hb j (by omega)⟩, (hb _ (by omega)).trans h.b0, (hb _ (by omega)).trans h.b1⟩
  rw [List.take_add_one, hk, Option.toList_some, List.map_append, iV_append]
  exact hown
/-- the three stores -/
theorem upd3 {W : World} {s : Nat} {kd ln : Int} {key tx : ByteArray} {quo : Bool} {u v : Value} (hb : W.heap[s]? = some (.cells #[.int .i64 kd, .string key, .string tx, .bool quo, .int .i64 ln, u] 51 (0, 0))) :
    ((W.setCell ⟨s, 1, none⟩ (.string key)).cell? ⟨s, 1, none⟩ = some (.string key) ∧ (W.setCell ⟨s, 1, none⟩ (.string key)).cell? ⟨s, 2, none⟩ = some (.string tx) ∧ (W.setCell ⟨s, 1, none⟩ (.string key)).frozen? ⟨s, 2, none⟩ = false) ∧
    (((W.setCell ⟨s, 1, none⟩ (.string key)).setCell ⟨s, 2, none⟩ (.string tx)).cell? ⟨s, 1, none⟩ = some (.string key) ∧ ((W.setCell ⟨s, 1, none⟩ (.string key)).setCell ⟨s, 2, none⟩ (.string tx)).cell? ⟨s, 2, none⟩ = some (.string tx) ∧ ((W.setCell ⟨s, 1, none⟩ (.string key)).setCell ⟨s, 2, none⟩ (.string tx)).cell? ⟨s, 5, none⟩ = some u ∧ ((W.setCell ⟨s, 1, none⟩ (.string key)).setCell ⟨s, 2, none⟩ (.string tx)).frozen? ⟨s, 5, none⟩ = false) ∧
    ((((W.setCell ⟨s, 1, none⟩ (.string key)).setCell ⟨s, 2, none⟩ (.string tx)).setCell ⟨s, 5, none⟩ v).cell? ⟨s, 1, none⟩ = some (.string key) ∧ (((W.setCell ⟨s, 1, none⟩ (.string key)).setCell ⟨s, 2, none⟩ (.string tx)).setCell ⟨s, 5, none⟩ v).cell? ⟨s, 2, none⟩ = some (.string tx)) ∧
    (((W.setCell ⟨s, 1, none⟩ (.string key)).setCell ⟨s, 2, none⟩ (.string tx)).setCell ⟨s, 5, none⟩ v).heap[s]? = some (.cells #[.int .i64 kd, .string key, .string tx, .bool quo, .int .i64 ln, v] 51 (0, 0)) ∧
    (∀ k, k ≠ s → (((W.setCell ⟨s, 1, none⟩ (.string key)).setCell ⟨s, 2, none⟩ (.string tx)).setCell ⟨s, 5, none⟩ v).heap[k]? = W.heap[k]?) := by
  have h1 := heap_setCell_same W s 1 _ 51 (.string key) hb
  have h2 := heap_setCell_same _ s 2 _ 51 (.string tx) h1
  have h3 := heap_setCell_same _ s 5 _ 51 v h2
  refine ⟨⟨?_, ?_, ?_⟩, ⟨?_, ?_, ?_, ?_⟩, ⟨?_, ?_⟩, ?_, ?_⟩
  · rw [cell_block h1]; rfl
  · rw [cell_block h1]; rfl
  · simp [World.frozen?, h1]
  · rw [cell_block h2]; rfl
  · rw [cell_block h2]; rfl
  · rw [cell_block h2]; rfl
  · simp [World.frozen?, h2]
  · rw [cell_block h3]; rfl
  · rw [cell_block h3]; rfl
  · rw [h3]; rfl
  · intro k hk
    rw [Below.heap_setCell _ _ _ _ hk, Below.heap_setCell _ _ _ _ hk, Below.heap_setCell _ _ _ _ hk]
theorem upd6 {X Y : World} {s : Nat} {a0 a1 a2 a3 a4 a5 b0 b1 b2 b3 b4 b5 : Value} (hb : X.heap[s]? = some (.cells #[a0, a1, a2, a3, a4, a5] 51 (0, 0))) (hY : ((((((X.setCell ⟨s, 0, none⟩ b0).setCell ⟨s, 1, none⟩ b1).setCell ⟨s, 2, none⟩ b2).setCell ⟨s, 3, none⟩ b3).setCell ⟨s, 4, none⟩ b4).setCell ⟨s, 5, none⟩ b5) = Y) :
    Y.heap[s]? = some (.cells #[b0, b1, b2, b3, b4, b5] 51 (0, 0)) ∧ (∀ k, k ≠ s → Y.heap[k]? = X.heap[k]?) ∧ X.heap.size ≤ Y.heap.size ∧ Y.os = X.os ∧ Y.tape = X.tape ∧ Y.output = X.output := by
  subst hY
  have h0 := heap_setCell_same X s 0 _ 51 b0 hb
  have h1 := heap_setCell_same _ s 1 _ 51 b1 h0
  have h2 := heap_setCell_same _ s 2 _ 51 b2 h1
  have h3 := heap_setCell_same _ s 3 _ 51 b3 h2
  have h4 := heap_setCell_same _ s 4 _ 51 b4 h3
  have h5 := heap_setCell_same _ s 5 _ 51 b5 h4
  have hbt := ((((((But.set (b := s) (A := X) 0 b0).trans (But.set 1 b1)).trans (But.set 2 b2)).trans (But.set 3 b3)).trans (But.set 4 b4)).trans (But.set 5 b5))
  refine ⟨by rw [h5]; simp, ?_, hbt.size, hbt.os, hbt.tape, hbt.output⟩
  intro k hk
  rw [Below.heap_setCell _ _ _ _ hk, Below.heap_setCell _ _ _ _ hk, Below.heap_setCell _ _ _ _ hk, Below.heap_setCell _ _ _ _ hk, Below.heap_setCell _ _ _ _ hk, Below.heap_setCell _ _ _ _ hk]
set_option maxHeartbeats 8000000 in
theorem moved_any (w : World) (o : Nx) (d : Nat) (hin : Nin w o) (hd : d ≤ 4096) (hk : ∀ k ∈ o.ks, 0 ≤ k ∧ k ≤ 4096) (hn : o.n ≤ 4096) (hs1 : o.key.size ≤ 281474976710656) (hs2 : o.tx.size ≤ 281474976710656) :
    Calls Try.prog 29 #[.agg o.row.toArray, .int .i64 d] w fun e w' => ∃ a c, e = .returned (.agg (Nx.row ⟨o.kd, o.key, o.tx, o.quo, o.ln, a, o.n, c, o.ks.map (· - (d : Int))⟩).toArray) ∧ w'.ownsRow w.heap.size 3 1 (.slice a o.n c) o.n (iV (o.ks.map (· - (d : Int)))) ∧ Below w.heap.size w w' := by
  have HIN := hideL hin
  have HK := hideL hk
  have HS1 := hideL hs1
  have HS2 := hideL hs2
  clear hin hk hs1 hs2
  obtain ⟨i3, hi3, hy0, hy1, hy2⟩ := info_parts Try.info3'
  have HMS : Hid (Mw w ((w.alloc (.cells o.row.toArray 51 (0, 0))).alloc (.cells #[.int .i64 0, .string ⟨#[]⟩, .string ⟨#[]⟩, .bool false, .int .i64 0, .slice none 0 0] 51 (0, 0))) o d 0 (.slice none 0 0)) :=
    ⟨⟨by simp [iV], .inl ⟨rfl, rfl⟩⟩, two_alloc _ _ _, by rw [Below.heap_alloc _ _ _ (by simp)]; exact Go.heap_alloc_new _ _, alloc2_new _ _ _⟩
  obtain ⟨kd, key, tx, quo, ln, oa, on_, ocap, ks⟩ := o
  dsimp only at HK hn HS1 HS2
  have hlen : Hid (ks.length = on_) := HIN.out.len
  have HNU : Hid (Nums w oa ks) := HIN.out.nums
  show Calls Try.prog 29 #[.agg #[.int .i64 kd, .string key, .string tx, .bool quo, .int .i64 ln, .slice oa on_ ocap], .int .i64 d] w _
  go_enter Try.func29, Try.ntmps29
  go_wp2_with fail
  go_loopw [5, 11] (fun v t wr => ∃ (i : Nat), t = .int .i64 i ∧ i ≤ on_ ∧ Mw w wr ⟨kd, key, tx, quo, ln, oa, on_, ocap, ks⟩ d i v) (fun _ t _ => on_ - (intOf t).toNat)
  case atStart => exact ⟨0, rfl, by omega, HMS.out⟩
  case round =>
    obtain ⟨i, rfl, hi, hm⟩ := hrel
    have i0 : (0 : Int) ≤ i := by omega
    obtain ⟨va, vc, rfl, _, hvc, hvm⟩ := own_form hm.own
    have HM := hideL hm
    by_cases h3 : i < on_
    · have h3' : (i : Int) < on_ := by omega
      rcases hki : ks[i]? with _ | k
      · have := List.getElem?_eq_none_iff.1 hki; have := hlen.out; omega
      obtain ⟨x, hx, hcx⟩ := (HNU.out.below hm.bel).at_ hki
      subst hx
      obtain ⟨k0, k1⟩ := HK.out k (List.mem_of_getElem? hki)
      have HKI : Hid ((⟨kd, key, tx, quo, ln, some x, on_, ocap, ks⟩ : Nx).ks[i]? = some k) := hki
      have HA : Hid ((wr.alloc (Obj.cells #[.int .i64 (k - d)] 3)).ownsRow (w.heap.size + 2) 3 1 (.slice va i vc) i (iV ((ks.take i).map (· - (d : Int))))) := hm.own.alloc _
      have hw2 : w.heap.size + 2 ≤ (wr.alloc (Obj.cells #[.int .i64 (k - d)] 3)).heap.size := by have := hm.lt; simp; omega
      clear hm hki
      go_wp2_with (at_builtin; refine wpList_append_at _ rfl (.tmp 15) (.tmp 19) 49 rfl (w.heap.size + 2) 3 i3 (.int .i64 0) 1 8 Try.underlying49 hi3 hy0 hy1 hy2 rfl (by decide) _ i (iV ((ks.take i).map (· - (d : Int)))) rfl HA.out ⟨wr.heap.size, 0, none⟩ 1 1 [.int .i64 (k - d)] rfl rfl (World.news_of_block (Go.heap_alloc_new wr _)) (by intro u hu; simp at hu; subst hu; rfl) (by unfold maxLen; omega) (by omega) hw2 ?_; intro v3 w3 hown3 hgrow3 hat3; have HM3 := hideL (Mw.more HM.out HKI.out hown3 hgrow3); clear hown3 hgrow3 hat3)
      go_roundw
      case rel => exact ⟨i + 1, by go_num, by omega, HM3.out⟩
      case measure => simp [intOf]; omega
    · have h3' : ¬ (i : Int) < on_ := by omega
      obtain rfl : i = on_ := by omega
      have z1 : wr.cell? ⟨w.heap.size, 1, none⟩ = some (.string key) := by rw [cell_block hm.b0]; rfl
      have z2 : wr.cell? ⟨w.heap.size, 2, none⟩ = some (.string tx) := by rw [cell_block hm.b0]; rfl
      have z5 : wr.cell? ⟨w.heap.size, 5, none⟩ = some (.slice oa i ocap) := by rw [cell_block hm.b0]; rfl
      have f1 : wr.frozen? ⟨w.heap.size, 1, none⟩ = false := by simp [World.frozen?, hm.b0]
      have HBK : Hid (∀ W, Below wr.heap.size wr W → W.cell? ⟨w.heap.size, 1, none⟩ = some (.string key) ∧ W.cell? ⟨w.heap.size, 2, none⟩ = some (.string tx) ∧ W.cell? ⟨w.heap.size, 5, none⟩ = some (.slice oa i ocap) ∧ W.frozen? ⟨w.heap.size, 1, none⟩ = false ∧ W.frozen? ⟨w.heap.size, 2, none⟩ = false ∧ W.frozen? ⟨w.heap.size, 5, none⟩ = false) := fun W hW => by
        have hb := (hW.block w.heap.size (by have := hm.lt; omega)).trans hm.b0
        refine ⟨?_, ?_, ?_, ?_, ?_, ?_⟩
        · rw [cell_block hb]; rfl
        · rw [cell_block hb]; rfl
        · rw [cell_block hb]; rfl
        all_goals simp [World.frozen?, hb]
      have HLT := hideL hm.lt
      have HBL : Hid (∀ W, Below wr.heap.size wr W → W.heap[w.heap.size]? = some (.cells #[.int .i64 kd, .string key, .string tx, .bool quo, .int .i64 ln, .slice oa i ocap] 51 (0, 0))) := fun W hW => (hW.block w.heap.size (by have := hm.lt; omega)).trans hm.b0
      clear hm
      go_wp2_with fail
      go_region_held3 (fun w' => w'.cell? ⟨w.heap.size, 1, none⟩ = some (.string key) ∧ w'.cell? ⟨w.heap.size, 2, none⟩ = some (.string tx)) (go_keep)
        (first | (go_at_call 40; refine (clone_any key _ HS1.out).mono ?_; rintro e w5 ⟨rfl, hb5⟩; have B5 : Hid (Below wr.heap.size wr w5) := (below_drewN (Below.refl _ wr) 1).trans hb5; obtain ⟨m1, m2, m3, m4, m5, m6⟩ := HBK.out w5 B5.out; clear hb5) | (go_at_call 40; refine (clone_any tx _ HS2.out).mono ?_; rintro e w6 ⟨rfl, hb6⟩; have B6 : Hid (Below wr.heap.size wr w6) := B5.out.trans (hb6.mono B5.out.size); obtain ⟨l1, l2, l3, l4, l5, l6⟩ := HBK.out w6 B6.out; obtain ⟨⟨q1, q2, q3⟩, ⟨q4, q5, q6, q7⟩, ⟨q8, q9⟩, q10, q11⟩ := upd3 (v := .slice va i vc) (HBL.out w6 B6.out); have HQ10 := hideL q10; have HQ11 := hideL q11; clear hb6 q10 q11))
      obtain ⟨X, hX⟩ : ∃ X, (((w6.setCell ⟨w.heap.size, 1, none⟩ (.string key)).setCell ⟨w.heap.size, 2, none⟩ (.string tx)).setCell ⟨w.heap.size, 5, none⟩ (.slice va i vc)) = X := ⟨_, rfl⟩
      have HX10 := HQ10.out
      have HX11 := HQ11.out
      rw [hX] at HX10 HX11 ⊢
      have hXb1 : X.heap[w.heap.size + 1]? = some (.cells #[.int .i64 0, .string ⟨#[]⟩, .string ⟨#[]⟩, .bool false, .int .i64 0, .slice none 0 0] 51 (0, 0)) := (HX11 _ (by omega)).trans ((B6.out.block _ (by have := HLT.out; omega)).trans HM.out.b1)
      have hXs : X.heap.size = w6.heap.size := by rw [← hX]; simp [World.setCell]
      have HXO : Hid (X.os = w6.os ∧ X.tape = w6.tape ∧ X.output = w6.output) := by rw [← hX]; exact ⟨rfl, rfl, rfl⟩
      have x0 : X.cell? ⟨w.heap.size, 0, none⟩ = some (.int .i64 kd) := by rw [cell_block HX10]; rfl
      have x1 : X.cell? ⟨w.heap.size, 1, none⟩ = some (.string key) := by rw [cell_block HX10]; rfl
      have x2 : X.cell? ⟨w.heap.size, 2, none⟩ = some (.string tx) := by rw [cell_block HX10]; rfl
      have x3 : X.cell? ⟨w.heap.size, 3, none⟩ = some (.bool quo) := by rw [cell_block HX10]; rfl
      have x4 : X.cell? ⟨w.heap.size, 4, none⟩ = some (.int .i64 ln) := by rw [cell_block HX10]; rfl
      have x5 : X.cell? ⟨w.heap.size, 5, none⟩ = some (.slice va i vc) := by rw [cell_block HX10]; rfl
      have y0 : X.frozen? ⟨w.heap.size + 1, 0, none⟩ = false := by simp [World.frozen?, hXb1]
      have y1 : X.frozen? ⟨w.heap.size + 1, 1, none⟩ = false := by simp [World.frozen?, hXb1]
      have y2 : X.frozen? ⟨w.heap.size + 1, 2, none⟩ = false := by simp [World.frozen?, hXb1]
      have y3 : X.frozen? ⟨w.heap.size + 1, 3, none⟩ = false := by simp [World.frozen?, hXb1]
      have y4 : X.frozen? ⟨w.heap.size + 1, 4, none⟩ = false := by simp [World.frozen?, hXb1]
      have y5 : X.frozen? ⟨w.heap.size + 1, 5, none⟩ = false := by simp [World.frozen?, hXb1]
      have v0 : X.cell? ⟨w.heap.size + 1, 0, none⟩ = some (.int .i64 0) := by rw [cell_block hXb1]; rfl
      have v1 : X.cell? ⟨w.heap.size + 1, 1, none⟩ = some (.string ⟨#[]⟩) := by rw [cell_block hXb1]; rfl
      have v2 : X.cell? ⟨w.heap.size + 1, 2, none⟩ = some (.string ⟨#[]⟩) := by rw [cell_block hXb1]; rfl
      have v3 : X.cell? ⟨w.heap.size + 1, 3, none⟩ = some (.bool false) := by rw [cell_block hXb1]; rfl
      have v4 : X.cell? ⟨w.heap.size + 1, 4, none⟩ = some (.int .i64 0) := by rw [cell_block hXb1]; rfl
      have v5 : X.cell? ⟨w.heap.size + 1, 5, none⟩ = some (.slice none 0 0) := by rw [cell_block hXb1]; rfl
      have HXB1 := hideL hXb1
      have HXS := hideL hXs
      have HXE := hideL HX11
      clear hX HQ10 HQ11 q1 q2 q3 q4 q5 q6 q7 q8 q9 l1 l2 l3 l4 l5 l6 m1 m2 m3 m4 m5 m6 z1 z2 z5 f1 HX10 HX11 hXb1 hXs
      go_wp2_with fail
      obtain ⟨Y, hY⟩ : ∃ Y, ((((((X.setCell ⟨w.heap.size + 1, 0, none⟩ (.int .i64 kd)).setCell ⟨w.heap.size + 1, 1, none⟩ (.string key)).setCell ⟨w.heap.size + 1, 2, none⟩ (.string tx)).setCell ⟨w.heap.size + 1, 3, none⟩ (.bool quo)).setCell ⟨w.heap.size + 1, 4, none⟩ (.int .i64 ln)).setCell ⟨w.heap.size + 1, 5, none⟩ (.slice va i vc)) = Y := ⟨_, rfl⟩
      obtain ⟨hYb, hYo, hYs, hYx⟩ := upd6 HXB1.out hY
      rw [hY]
      have g0 : Y.cell? ⟨w.heap.size + 1, 0, none⟩ = some (.int .i64 kd) := by rw [cell_block hYb]; rfl
      have g1 : Y.cell? ⟨w.heap.size + 1, 1, none⟩ = some (.string key) := by rw [cell_block hYb]; rfl
      have g2 : Y.cell? ⟨w.heap.size + 1, 2, none⟩ = some (.string tx) := by rw [cell_block hYb]; rfl
      have g3 : Y.cell? ⟨w.heap.size + 1, 3, none⟩ = some (.bool quo) := by rw [cell_block hYb]; rfl
      have g4 : Y.cell? ⟨w.heap.size + 1, 4, none⟩ = some (.int .i64 ln) := by rw [cell_block hYb]; rfl
      have g5 : Y.cell? ⟨w.heap.size + 1, 5, none⟩ = some (.slice va i vc) := by rw [cell_block hYb]; rfl
      have hkeep : ∀ k, k ≠ w.heap.size → k ≠ w.heap.size + 1 → Y.heap[k]? = w6.heap[k]? := fun k h1 h2 => (hYo k h2).trans (HXE.out k h1)
      have hT : ks.take i = ks := List.take_of_length_le (by rw [hlen.out]; omega)
      refine bodyPost_ret (v := .agg #[.int .i64 kd, .string key, .string tx, .bool quo, .int .i64 ln, .slice va i vc]) (by simp [results, Try.results29, go_sem, g0, g1, g2, g3, g4, g5]) rfl ⟨va, vc, rfl, ?_, ?_⟩
      · have h1 := HM.out.own
        dsimp only at h1
        rw [hT] at h1
        refine own_low' (own_block h1 (fun k hk => ?_)) (by omega)
        have h2 := h1.lt k hk
        rw [hkeep k (by omega) (by omega)]
        exact B6.out.block k h2.2
      · refine HM.out.bel.trans ⟨?_, ?_, ?_, ?_, fun k hk => ?_⟩
        · rw [hYx.1, HXO.out.1]; exact B6.out.os
        · rw [hYx.2.1, HXO.out.2.1]; exact B6.out.tape
        · rw [hYx.2.2, HXO.out.2.2]; exact B6.out.output
        · have := B6.out.size; have := HXS.out; omega
        · rw [hkeep k (by omega) (by omega)]
          exact B6.out.block k (by have := HLT.out; omega)
end Go.Proofs.Ytgododijnogegaa
