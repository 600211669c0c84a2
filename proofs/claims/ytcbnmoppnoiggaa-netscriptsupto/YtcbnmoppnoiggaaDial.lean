/-
  New, Dial, Cut, Conns.
-/
import Derived.Test.YtcbnmoppnoiggaaPass
import Derived.Maps.OwnSet
namespace Go.Proofs.Ytcbnmoppnoiggaa
open Go.RowKit
set_option linter.unusedVariables false
set_option linter.unusedSimpArgs false
theorem Try.info55 : (Try.prog.info? 55).map (fun i => (i.zero, i.size)) = some (some (.agg #[.slice none 0 0, .map none]), 2) := by kernel_rfl
theorem new_any (w : World) :
    Calls Try.prog 7 #[] w fun e w' => e = .returned (.pointer (some ⟨w.heap.size, 0, none⟩)) ∧ w' = w.alloc (.cells #[.slice none 0 0, .map none] 55 (0, 0)) := by
  go_enter Try.func7, Try.ntmps7
  go_wp2_with fail
  go_ret
  exact ⟨rfl, rfl⟩
theorem cut_cells (a0 a1 a2 a3 a4 a5 a6 a7 a8 a9 a10 x0 x1 x2 x3 x4 x5 x6 x7 x8 x9 x10 : Value) : (((((((((((#[a0, a1, a2, a3, a4, a5, a6, a7, a8, a9, a10]).setIfInBounds 0 x0).setIfInBounds 1 x1).setIfInBounds 2 x2).setIfInBounds 3 x3).setIfInBounds 4 x4).setIfInBounds 5 x5).setIfInBounds 6 x6).setIfInBounds 7 x7).setIfInBounds 8 x8).setIfInBounds 9 x9).setIfInBounds 10 x10 = #[x0, x1, x2, x3, x4, x5, x6, x7, x8, x9, x10] := by simp
theorem cut_bad (p : Option Addr) (i E : Int) (w : World) (h : Bad w p i 0 0 E) (hE : E ≠ 0) :
    Calls Try.prog 18 #[.pointer p, .int .i64 i] w fun e w' => w' = w ∧ e = .returned (.int .i64 E) := by
  go_enter Try.func18, Try.ntmps18
  go_wp2_with fail
  refine h.mono ?_
  rintro e w1 ⟨h1, rfl⟩
  subst h1
  go_wp2_with fail
  go_ret
  exact ⟨rfl, rfl⟩
theorem cut_ok (base : Nat) (c : Cn) (p : Option Addr) (i : Int) (w : World) (h : Good w p i 0 0 c.k) (C : Con w base c) (hnd : c.blocks.Nodup) :
    Calls Try.prog 18 #[.pointer p, .int .i64 i] w fun e w' => e = .returned (.int .i64 0) ∧ Chg w w' base c ⟨c.k, ⟨#[]⟩, false, true, ⟨.slice none 0 0, [], .slice none 0 0, [], false, false⟩, ⟨.slice none 0 0, [], .slice none 0 0, [], false, false⟩⟩ := by
  have k0 : w.cell? ⟨c.k, 0, none⟩ = some (.string c.nm) := C.cell 0
  have q0 : w.frozen? ⟨c.k, 0, none⟩ = false := by simp [World.frozen?, C.blk]
  have k1 : w.cell? ⟨c.k, 1, none⟩ = some (.bool c.wt) := C.cell 1
  have q1 : w.frozen? ⟨c.k, 1, none⟩ = false := by simp [World.frozen?, C.blk]
  have k2 : w.cell? ⟨c.k, 2, none⟩ = some (.bool c.ct) := C.cell 2
  have q2 : w.frozen? ⟨c.k, 2, none⟩ = false := by simp [World.frozen?, C.blk]
  have k3 : w.cell? ⟨c.k, 3, none⟩ = some (c.s0.u) := C.cell 3
  have q3 : w.frozen? ⟨c.k, 3, none⟩ = false := by simp [World.frozen?, C.blk]
  have k4 : w.cell? ⟨c.k, 4, none⟩ = some (c.s0.a) := C.cell 4
  have q4 : w.frozen? ⟨c.k, 4, none⟩ = false := by simp [World.frozen?, C.blk]
  have k5 : w.cell? ⟨c.k, 5, none⟩ = some (.bool c.s0.cl) := C.cell 5
  have q5 : w.frozen? ⟨c.k, 5, none⟩ = false := by simp [World.frozen?, C.blk]
  have k6 : w.cell? ⟨c.k, 6, none⟩ = some (.bool c.s0.to) := C.cell 6
  have q6 : w.frozen? ⟨c.k, 6, none⟩ = false := by simp [World.frozen?, C.blk]
  have k7 : w.cell? ⟨c.k, 7, none⟩ = some (c.s1.u) := C.cell 7
  have q7 : w.frozen? ⟨c.k, 7, none⟩ = false := by simp [World.frozen?, C.blk]
  have k8 : w.cell? ⟨c.k, 8, none⟩ = some (c.s1.a) := C.cell 8
  have q8 : w.frozen? ⟨c.k, 8, none⟩ = false := by simp [World.frozen?, C.blk]
  have k9 : w.cell? ⟨c.k, 9, none⟩ = some (.bool c.s1.cl) := C.cell 9
  have q9 : w.frozen? ⟨c.k, 9, none⟩ = false := by simp [World.frozen?, C.blk]
  have k10 : w.cell? ⟨c.k, 10, none⟩ = some (.bool c.s1.to) := C.cell 10
  have q10 : w.frozen? ⟨c.k, 10, none⟩ = false := by simp [World.frozen?, C.blk]
  have T : Hid (Chg w ((((((((((((w).setCell ⟨c.k, 0, none⟩ (.string ⟨#[]⟩)).setCell ⟨c.k, 1, none⟩ (.bool false)).setCell ⟨c.k, 2, none⟩ (.bool true)).setCell ⟨c.k, 3, none⟩ (.slice none 0 0)).setCell ⟨c.k, 4, none⟩ (.slice none 0 0)).setCell ⟨c.k, 5, none⟩ (.bool false)).setCell ⟨c.k, 6, none⟩ (.bool false)).setCell ⟨c.k, 7, none⟩ (.slice none 0 0)).setCell ⟨c.k, 8, none⟩ (.slice none 0 0)).setCell ⟨c.k, 9, none⟩ (.bool false)).setCell ⟨c.k, 10, none⟩ (.bool false)) base c ⟨c.k, ⟨#[]⟩, false, true, ⟨.slice none 0 0, [], .slice none 0 0, [], false, false⟩, ⟨.slice none 0 0, [], .slice none 0 0, [], false, false⟩⟩) := chg_block C hnd ((((((((((((Turn.refl w [c.k]).trans (Turn.setCell _ c.k 0 (.string ⟨#[]⟩)) (fun _ h => .inl h)).trans (Turn.setCell _ c.k 1 (.bool false)) (fun _ h => .inl h)).trans (Turn.setCell _ c.k 2 (.bool true)) (fun _ h => .inl h)).trans (Turn.setCell _ c.k 3 (.slice none 0 0)) (fun _ h => .inl h)).trans (Turn.setCell _ c.k 4 (.slice none 0 0)) (fun _ h => .inl h)).trans (Turn.setCell _ c.k 5 (.bool false)) (fun _ h => .inl h)).trans (Turn.setCell _ c.k 6 (.bool false)) (fun _ h => .inl h)).trans (Turn.setCell _ c.k 7 (.slice none 0 0)) (fun _ h => .inl h)).trans (Turn.setCell _ c.k 8 (.slice none 0 0)) (fun _ h => .inl h)).trans (Turn.setCell _ c.k 9 (.bool false)) (fun _ h => .inl h)).trans (Turn.setCell _ c.k 10 (.bool false)) (fun _ h => .inl h)) _ rfl ((block_setCell (block_setCell (block_setCell (block_setCell (block_setCell (block_setCell (block_setCell (block_setCell (block_setCell (block_setCell (block_setCell (C.blk) 0 (.string ⟨#[]⟩)) 1 (.bool false)) 2 (.bool true)) 3 (.slice none 0 0)) 4 (.slice none 0 0)) 5 (.bool false)) 6 (.bool false)) 7 (.slice none 0 0)) 8 (.slice none 0 0)) 9 (.bool false)) 10 (.bool false)).trans (congrArg (fun z => some (Obj.cells z 75 (0, 0))) (cut_cells _ _ _ _ _ _ _ _ _ _ _ _ _ _ _ _ _ _ _ _ _ _))) (Buf.nil _ _) (own_nil _) (Buf.nil _ _) (own_nil _) (Buf.nil _ _) (own_nil _) (Buf.nil _ _) (own_nil _)
  clear C hnd
  go_enter Try.func18, Try.ntmps18
  go_wp2_with fail
  refine h.mono ?_
  rintro e w1 ⟨h1, rfl⟩
  subst h1
  go_wp2_with fail
  go_ret
  exact ⟨rfl, T.out⟩
theorem conns_any (base b : Nat) (row mv : Value) (cs : List Cn) (w : World) (h : Net w base b row mv cs) :
    Calls Try.prog 11 #[.pointer (some ⟨b, 0, none⟩)] w fun e w' => w' = w ∧ e = .returned (.int .i64 cs.length) := by
  obtain ⟨ao, cap, hrow⟩ : ∃ ao cap, row = .slice ao cs.length cap := by
    rcases h.rw.2 with ⟨h, h0⟩ | ⟨g, cap, _, h, _⟩
    · exact ⟨_, _, h0 ▸ h⟩
    · exact ⟨_, _, h⟩
  subst hrow
  have c0 : w.cell? ⟨b, 0, none⟩ = some (.slice ao cs.length cap) := by rw [cell_block h.net]; rfl
  clear h
  go_enter Try.func11, Try.ntmps11
  go_wp2_with fail
  go_ret
  exact ⟨rfl, rfl⟩
theorem conns_nil (w : World) : Calls Try.prog 11 #[.pointer none] w fun e w' => w' = w ∧ e = .returned (.int .i64 0) := by
  go_enter Try.func11, Try.ntmps11
  go_wp2_with fail
  go_ret
  exact ⟨rfl, rfl⟩
def Cn.fresh (k : Nat) (nm : ByteArray) : Cn := ⟨k, nm, true, false, ⟨.slice none 0 0, [], .slice none 0 0, [], false, false⟩, ⟨.slice none 0 0, [], .slice none 0 0, [], false, false⟩⟩
structure Dialed (w w' : World) (base b : Nat) (row mv : Value) (cs : List Cn) (row' mv' : Value) (cs' : List Cn) : Prop where
  net : Net w' base b row' mv' cs'
  turn : Turn w w' (blocks b row cs)
  sub : ∀ k ∈ blocks b row' cs', k ∈ blocks b row cs ∨ w.heap.size ≤ k
theorem dialed_of {w w2 : World} {base b : Nat} {row mv : Value} {cs : List Cn} (h : Net w base b row mv cs) (nm : ByteArray) (o : Obj) (g2 cap2 : Nat) (hc : cs.length < 4096)
    (hown : w2.ownsRow base 68 1 (.slice (some ⟨g2, 0, none⟩) (cs.length + 1) cap2) (cs.length + 1) ((cs.map fun c => .pointer (some ⟨c.k, 0, none⟩)) ++ [.pointer (some ⟨w.heap.size, 0, none⟩)]))
    (hg : ((w.alloc (.cells #[.string nm, .bool true, .bool false, .slice none 0 0, .slice none 0 0, .bool false, .bool false, .slice none 0 0, .slice none 0 0, .bool false, .bool false] 75)).alloc o).grownBy w2 row.ownBlock) (hat : row.ownBlock = some g2 ∨ g2 = ((w.alloc (.cells #[.string nm, .bool true, .bool false, .slice none 0 0, .slice none 0 0, .bool false, .bool false, .slice none 0 0, .slice none 0 0, .bool false, .bool false] 75)).alloc o).heap.size) :
    Dialed w (w2.setCell ⟨b, 0, none⟩ (.slice (some ⟨g2, 0, none⟩) (cs.length + 1) cap2)) base b row mv cs (.slice (some ⟨g2, 0, none⟩) (cs.length + 1) cap2) mv (cs ++ [Cn.fresh w.heap.size nm]) := by
  have hlb := lt_of_block h.net
  have hnb := row_type h.rw h.net (by decide)
  have hlt := h.lt
  have hsz : ((w.alloc (.cells #[.string nm, .bool true, .bool false, .slice none 0 0, .slice none 0 0, .bool false, .bool false, .slice none 0 0, .slice none 0 0, .bool false, .bool false] 75)).alloc o).heap.size = w.heap.size + 2 := by simp
  have old : ∀ k, k < w.heap.size → some k ≠ row.ownBlock → w2.heap[k]? = w.heap[k]? := fun k hk hne =>
    (hg.block k (by rw [hsz]; omega) hne).trans ((Below.heap_alloc _ _ _ (by simp; omega)).trans (Below.heap_alloc _ _ _ hk))
  have hrlt : ∀ k, row.ownBlock = some k → k < w.heap.size := fun k hk => (hlt k (by simp [blocks, hk])).2
  have hnew : w2.heap[w.heap.size]? = some (.cells #[.string nm, .bool true, .bool false, .slice none 0 0, .slice none 0 0, .bool false, .bool false, .slice none 0 0, .slice none 0 0, .bool false, .bool false] 75) :=
    (hg.block _ (by rw [hsz]; omega) (fun e => by have := hrlt _ e.symm; omega)).trans ((Below.heap_alloc _ _ _ (by simp)).trans (Go.heap_alloc_new w _))
  have hb2 := (old b hlb hnb).trans h.net
  have hg2b : some b ≠ (Value.slice (some ⟨g2, 0, none⟩) (cs.length + 1) cap2).ownBlock := row_type hown hb2 (by decide)
  have hg2b' : b ≠ g2 := fun e => hg2b (by simp [Value.ownBlock, e])
  have hn := h.nod
  simp only [blocks, List.nodup_cons, List.nodup_append, List.mem_append, Option.mem_toList, Option.mem_def] at hn
  obtain ⟨n1, n2, n3, n4⟩ := hn
  have keep : ∀ k, k < w.heap.size → k ≠ b → some k ≠ row.ownBlock → (w2.setCell ⟨b, 0, none⟩ (.slice (some ⟨g2, 0, none⟩) (cs.length + 1) cap2)).heap[k]? = w.heap[k]? := fun k hk h1 h2 =>
    (Below.heap_setCell w2 _ _ k (by simpa using h1)).trans (old k hk h2)
  have flt : ∀ k, k ∈ cs.flatMap Cn.blocks → k < w.heap.size := fun k hk => (hlt k (by simp only [blocks, List.mem_cons, List.mem_append]; exact .inr (.inr hk))).2
  refine ⟨⟨(block_setCell hb2 0 _).trans rfl, h.low, ?_, ?_, ?_, by simp; omega⟩, ?_, ?_⟩
  · have := own_block hown (w' := w2.setCell ⟨b, 0, none⟩ (.slice (some ⟨g2, 0, none⟩) (cs.length + 1) cap2)) (fun k hk => Below.heap_setCell w2 _ _ k (fun e => hg2b (by rw [hk]; simpa using e.symm)))
    simpa [Cn.fresh] using this
  · intro c hc'
    simp only [List.mem_append, List.mem_singleton] at hc'
    rcases hc' with hc' | rfl
    · refine (h.con c hc').keep fun k hk => ?_
      have hkF : k ∈ cs.flatMap Cn.blocks := List.mem_flatMap.2 ⟨c, hc', hk⟩
      exact keep k (flt k hkF) (fun e => n1 (.inr (e ▸ hkF))) (fun e => n4 k e.symm k hkF rfl)
    · exact ⟨(Below.heap_setCell w2 _ _ _ (fun e => by simp [Cn.fresh] at e; omega)).trans hnew, Nat.le_trans h.low (Nat.le_of_lt hlb), Buf.nil _ _, Buf.nil _ _, Buf.nil _ _, Buf.nil _ _⟩
  · have hfr : (Cn.fresh w.heap.size nm).blocks = [w.heap.size] := rfl
    simp only [blocks, Value.ownBlock, Option.toList_some, List.flatMap_append, List.flatMap_cons, List.flatMap_nil, hfr, List.append_nil, List.nodup_cons, List.nodup_append, List.mem_append, List.mem_singleton, List.singleton_append, List.mem_cons, List.not_mem_nil, or_false, Option.mem_toList, Option.mem_def]
    have hgF : g2 ∉ cs.flatMap Cn.blocks := fun hm => by
      rcases hat with h' | h'
      · exact n4 g2 h' g2 hm rfl
      · have := flt _ hm; omega
    have hgk : g2 ≠ w.heap.size := by
      rcases hat with h' | h'
      · have := hrlt _ h'; omega
      · omega
    refine ⟨?_, ?_, n3, by simp, ?_⟩
    · rintro (h' | h' | h')
      · exact hg2b' h'
      · exact n1 (.inr h')
      · omega
    · rintro (h' | h')
      · exact hgF h'
      · exact hgk h'
    · intro a ha d hd e
      have := flt a ha
      omega
  · refine ⟨hg.os, hg.tape, hg.output, by have := hg.size; rw [hsz] at this; simp; omega, fun k hk hnm => keep k hk (fun e => hnm (by simp [blocks, e])) (fun e => hnm (by simp [blocks, ← e]))⟩
  · intro k hk
    have hfr : (Cn.fresh w.heap.size nm).blocks = [w.heap.size] := rfl
    simp only [blocks, Value.ownBlock, Option.toList_some, List.flatMap_append, List.flatMap_cons, List.flatMap_nil, hfr, List.append_nil, List.mem_append, List.mem_singleton, List.singleton_append, List.mem_cons, List.not_mem_nil, or_false, Option.mem_toList, Option.mem_def] at hk ⊢
    rcases hk with h' | h' | h' | h'
    · exact .inl (.inl h')
    · rcases hat with h2 | h2
      · subst h'; exact .inl (.inr (.inl h2))
      · right; omega
    · exact .inl (.inr (.inr h'))
    · right; omega
set_option maxRecDepth 100000 in
set_option maxHeartbeats 1000000 in
theorem dial_ok (base b : Nat) (row : Value) (m : Option Nat) (cs : List Cn) (nm : ByteArray) (w : World) (h : Net w base b row (.map m) cs) (hc : cs.length < 4096) (hlook : (Instr.lookup 53 (.map m) (.string nm) false).run Try.prog w = .ok (.int .i64 0) w) :
    Calls Try.prog 13 #[.pointer (some ⟨b, 0, none⟩), .string nm] w fun e w' => e = .returned (.tuple #[.int .i64 cs.length, .int .i64 0]) ∧ ∃ k row', Dialed w w' base b row (.map m) cs row' (.map m) (cs ++ [Cn.fresh k nm]) := by
  obtain ⟨i0, hi, hz0, hz1, hz2⟩ := info_parts Try.info68
  obtain ⟨ao, cap, hrow⟩ : ∃ ao cap, row = .slice ao cs.length cap := by
    rcases h.rw.2 with ⟨h, h0⟩ | ⟨g, cap, _, h, _⟩
    · exact ⟨_, _, h0 ▸ h⟩
    · exact ⟨_, _, h⟩
  subst hrow
  have c0 : w.cell? ⟨b, 0, none⟩ = some (.slice ao cs.length cap) := by rw [cell_block h.net]; rfl
  have c1 : w.cell? ⟨b, 1, none⟩ = some (.map m) := by rw [cell_block h.net]; rfl
  have z0 : w.frozen? ⟨b, 0, none⟩ = false := by simp [World.frozen?, h.net]
  have hlb := lt_of_block h.net
  have HN : Hid (Net w base b (.slice ao cs.length cap) (.map m) cs) := h
  have HO : Hid (((w.alloc (.cells #[.string nm, .bool true, .bool false, .slice none 0 0, .slice none 0 0, .bool false, .bool false, .slice none 0 0, .slice none 0 0, .bool false, .bool false] 75)).alloc (.cells #[.pointer (some ⟨w.heap.size, 0, none⟩)] 68)).ownsRow base 68 1 (.slice ao cs.length cap) cs.length (cs.map fun c => .pointer (some ⟨c.k, 0, none⟩))) := (h.rw.alloc _).alloc _
  have HW : Hid (∀ j u, [Value.pointer (some ⟨w.heap.size, 0, none⟩)][j]? = some u → ((w.alloc (.cells #[.string nm, .bool true, .bool false, .slice none 0 0, .slice none 0 0, .bool false, .bool false, .slice none 0 0, .slice none 0 0, .bool false, .bool false] 75)).alloc (.cells #[.pointer (some ⟨w.heap.size, 0, none⟩)] 68)).cell? ((⟨w.heap.size + 1, 0, none⟩ : Addr).add j) = some u) := by
    have e : w.heap.size + 1 = (w.alloc (.cells #[.string nm, .bool true, .bool false, .slice none 0 0, .slice none 0 0, .bool false, .bool false, .slice none 0 0, .slice none 0 0, .bool false, .bool false] 75)).heap.size := by simp
    rw [e]
    exact World.news_of_block (Go.heap_alloc_new _ _)
  have hnb : some b ≠ (Value.slice ao cs.length cap).ownBlock := row_type h.rw h.net (by decide)
  have hlb2 : b < ((w.alloc (.cells #[.string nm, .bool true, .bool false, .slice none 0 0, .slice none 0 0, .bool false, .bool false, .slice none 0 0, .slice none 0 0, .bool false, .bool false] 75)).alloc (.cells #[.pointer (some ⟨w.heap.size, 0, none⟩)] 68)).heap.size := by simp; omega
  have hbs : base ≤ ((w.alloc (.cells #[.string nm, .bool true, .bool false, .slice none 0 0, .slice none 0 0, .bool false, .bool false, .slice none 0 0, .slice none 0 0, .bool false, .bool false] 75)).alloc (.cells #[.pointer (some ⟨w.heap.size, 0, none⟩)] 68)).heap.size := by have := h.low; simp; omega
  have c0' : ((w.alloc (.cells #[.string nm, .bool true, .bool false, .slice none 0 0, .slice none 0 0, .bool false, .bool false, .slice none 0 0, .slice none 0 0, .bool false, .bool false] 75)).alloc (.cells #[.pointer (some ⟨w.heap.size, 0, none⟩)] 68)).cell? ⟨b, 0, none⟩ = some (.slice ao cs.length cap) := by
    rw [World.cell?_of_block (w := w) (a := ⟨b, 0, none⟩) ((Below.heap_alloc _ _ _ (by simp; omega)).trans (Below.heap_alloc _ _ _ hlb)), c0]
  have z0' : ((w.alloc (.cells #[.string nm, .bool true, .bool false, .slice none 0 0, .slice none 0 0, .bool false, .bool false, .slice none 0 0, .slice none 0 0, .bool false, .bool false] 75)).alloc (.cells #[.pointer (some ⟨w.heap.size, 0, none⟩)] 68)).frozen? ⟨b, 0, none⟩ = false := by
    rw [World.frozen?_of_block (w := w) (a := ⟨b, 0, none⟩) ((Below.heap_alloc _ _ _ (by simp; omega)).trans (Below.heap_alloc _ _ _ hlb)), z0]
  obtain ⟨N, hN⟩ : ∃ N, cs.length = N := ⟨_, rfl⟩
  have HL : Hid (cs.length = N) := hN
  rw [hN] at c0 hc HO hnb c0'
  have hmx : N + 1 ≤ maxLen := by have : (4096 : Nat) ≤ maxLen := by decide
                                  omega
  rw [hN]
  clear h hN
  go_enter Try.func13, Try.ntmps13
  go_wp2_with fail
  refine wp_scope_once 0 rfl ?_
  go_wp2_with (at_builtin; refine wpList_append_lies _ rfl (.tmp 36) (.tmp 40) 52 rfl base 68 i0 (.pointer none) 1 8 Try.underlying52 hi hz0 hz1 hz2 rfl (by decide) (.slice ao N cap) N (cs.map fun c => .pointer (some ⟨c.k, 0, none⟩)) rfl HO.out ⟨w.heap.size + 1, 0, none⟩ 1 1 [.pointer (some ⟨w.heap.size, 0, none⟩)] rfl rfl HW.out (fun u hu => by cases hu with | head => rfl | tail _ h => cases h) (by decide) hmx (by omega) hbs _ rfl ?_; intro g2 cap2 w2 hown2 hgrow2 hat2 hlt2; have c2 : w2.cell? ⟨b, 0, none⟩ = some (.slice ao N cap) := (hgrow2.cell_far _ hlb2 hnb).trans c0'; have z2 : w2.frozen? ⟨b, 0, none⟩ = false := (hgrow2.frozen_far _ hlb2 hnb).trans z0')
  refine jump_ret ?_
  go_ret2
  rw [← HL.out] at hown2 hgrow2 hat2 ⊢
  exact ⟨rfl, _, _, dialed_of HN.out nm _ g2 cap2 (by rw [HL.out]; exact hc) hown2 hgrow2 hat2⟩
end Go.Proofs.Ytcbnmoppnoiggaa
