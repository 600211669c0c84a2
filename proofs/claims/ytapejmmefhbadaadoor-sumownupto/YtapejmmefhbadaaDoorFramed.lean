/-
  The contract of framed: the frames of payloads, one behind the other.
-/
import Derived.Test.YtapejmmefhbadaaDoorLists
namespace Go.Proofs.YtapejmmefhbadaaDoor
open Go.RowKit
set_option linter.unusedVariables false

theorem Tryd.info3 : (Tryd.prog.info? 3).map (fun i => (i.zero, i.size, i.bytes)) = some (some (.int .i64 0), 1, 8) := by kernel_rfl
/-- The frames, one behind the other. -/
def flat (gs : List Sl) : List Int := gs.flatMap fun s => frame s.zs
/-- The places behind them. -/
def plc : Nat → List Sl → List Int
  | _, [] => []
  | k, s :: r => ((k + (8 + s.n) : Nat) : Int) :: plc (k + (8 + s.n)) r
def ivals (l : List Int) : List Value := l.map (Value.int .i64)
def short (s : Sl) : Bool := decide (s.n ≤ 131072)
def kept (ss : List Sl) : List Sl := ss.filter short

theorem flat_snoc (gs : List Sl) (s : Sl) : flat (gs ++ [s]) = flat gs ++ frame s.zs := by simp [flat]
theorem flat_length (gs : List Sl) (h : ∀ s ∈ gs, s.zs.length = s.n) : (flat gs).length = (gs.map fun s => 8 + s.n).sum := by
  induction gs with
  | nil => rfl
  | cons s r ih =>
    have e := h s (by simp)
    simp only [flat, List.flatMap_cons, List.length_append, frame_length, List.map_cons, List.sum_cons] at *
    rw [ih (fun x hx => h x (by simp [hx])), e]
theorem plc_snoc (k : Nat) (gs : List Sl) (s : Sl) : plc k (gs ++ [s]) = plc k gs ++ [((k + ((gs.map fun s => 8 + s.n).sum + (8 + s.n)) : Nat) : Int)] := by
  induction gs generalizing k with
  | nil => simp [plc]
  | cons x r ih =>
    simp only [List.cons_append, plc, ih, List.map_cons, List.sum_cons]
    rw [show k + (8 + x.n) + ((r.map fun s => 8 + s.n).sum + (8 + s.n)) = k + (8 + x.n + (r.map fun s => 8 + s.n).sum + (8 + s.n)) by omega]
theorem plc_length (k : Nat) (gs : List Sl) : (plc k gs).length = gs.length := by
  induction gs generalizing k with
  | nil => rfl
  | cons x r ih => simp [plc, ih]
theorem kept_snoc (ss : List Sl) (k : Nat) (s : Sl) (h : ss[k]? = some s) : kept (ss.take (k + 1)) = kept (ss.take k) ++ (if s.n ≤ 131072 then [s] else []) := by
  obtain ⟨hk, rfl⟩ := List.getElem?_eq_some_iff.1 h
  rw [List.take_succ_eq_append_getElem hk]
  unfold kept
  rw [List.filter_append]
  by_cases hs : ss[k].n ≤ 131072 <;> simp [short, hs]
theorem kept_sum (ss : List Sl) (k : Nat) : ((kept (ss.take k)).map fun s => 8 + s.n).sum ≤ (ss.map fun s => 8 + s.n).sum := by
  have h1 : ∀ (l : List Sl), ((kept l).map fun s => 8 + s.n).sum ≤ (l.map fun s => 8 + s.n).sum := by
    intro l
    induction l with
    | nil => simp [kept]
    | cons x r ih =>
      unfold kept at *
      by_cases hx : short x = true <;> simp [hx] <;> omega
  have h2 : ∀ (l : List Sl) (k : Nat), ((l.take k).map fun s => 8 + s.n).sum ≤ (l.map fun s => 8 + s.n).sum := by
    intro l
    induction l with
    | nil => simp
    | cons x r ih => intro k; cases k with
      | zero => simp
      | succ k => have := ih k; simp only [List.take_succ_cons, List.map_cons, List.sum_cons]; omega
  exact Nat.le_trans (h1 _) (h2 ss k)
theorem kept_len (ss : List Sl) (k : Nat) : (kept (ss.take k)).length ≤ ss.length := by
  unfold kept; exact Nat.le_trans (List.length_filter_le _ _) (by simp; omega)
theorem rows_ne {w : World} {b1 b2 : Nat} {e1 e2 : TypeId} {v1 v2 : Value} {n1 n2 : Nat} {x1 x2 : List Value} (h1 : w.ownsRow b1 e1 1 v1 n1 x1) (h2 : w.ownsRow b2 e2 1 v2 n2 x2) (hne : e1 ≠ e2) : v1.ownBlock = none ∨ v1.ownBlock ≠ v2.ownBlock := by
  rcases h1.2 with ⟨rfl, _⟩ | ⟨g, cp, cur, rfl, _, hgg, _⟩
  · exact .inl rfl
  · exact .inr (row_type h2 hgg hne)
theorem own_belowV {w w' : World} {B base : Nat} {e : TypeId} {v : Value} {n : Nat} {xs : List Value} (h : w.ownsRow base e 1 v n xs) (hb : Below B w w') (hB : w.heap.size ≤ B) : w'.ownsRow base e 1 v n xs :=
  own_block h (fun k hk => hb.block k (Nat.lt_of_lt_of_le (h.lt k hk).2 hB))

/-- What framed has gathered. -/
structure Gath (w : World) (W : World) (gs : List Sl) (v5 v6 v7 : Value) : Prop where
  b : W.ownsRow w.heap.size 5 1 v5 (flat gs).length (vals (flat gs))
  good : W.ownsRow w.heap.size 24 1 v6 gs.length (gs.map Sl.val)
  places : W.ownsRow w.heap.size 3 1 v7 gs.length (ivals (plc 0 gs))
  below : Below w.heap.size w W
theorem Gath.later {w W W' : World} {gs : List Sl} {v5 v6 v7 : Value} (h : Gath w W gs v5 v6 v7) (hb : Below W.heap.size W W') : Gath w W' gs v5 v6 v7 :=
  ⟨own_belowV h.b hb (Nat.le_refl _), own_belowV h.good hb (Nat.le_refl _), own_belowV h.places hb (Nat.le_refl _), h.below.trans (hb.mono h.below.size)⟩

theorem fr_a {w w2 w3 : World} {G : List Sl} {v5 v6 v7 : Value} (h : Gath w w2 G v5 v6 v7) (hg : w2.grownBy w3 v5.ownBlock) : Hid (w3.ownsRow w.heap.size 24 1 v6 G.length (G.map Sl.val)) ∧ Hid (w3.ownsRow w.heap.size 3 1 v7 G.length (ivals (plc 0 G))) ∧ Below w.heap.size w w3 :=
  ⟨h.good.kept hg (rows_ne h.good h.b (by decide)), h.places.kept hg (rows_ne h.places h.b (by decide)), h.below.grown hg h.below.size (fun k e => (h.b.lt k e).1)⟩
theorem fr_b {w w3 w4 : World} {v5 v6 v7 : Value} {n5 n6 n7 : Nat} {x5 x6 x7 : List Value} {o : Obj} (h5 : w3.ownsRow w.heap.size 5 1 v5 n5 x5) (h6 : Hid (w3.ownsRow w.heap.size 24 1 v6 n6 x6)) (h7 : Hid (w3.ownsRow w.heap.size 3 1 v7 n7 x7)) (hb : Below w.heap.size w w3) (hg : (w3.alloc o).grownBy w4 v6.ownBlock) :
    Hid (w4.ownsRow w.heap.size 5 1 v5 n5 x5) ∧ Hid (w4.ownsRow w.heap.size 3 1 v7 n7 x7) ∧ Below w.heap.size w w4 :=
  ⟨(h5.alloc o).kept hg (rows_ne h5 h6.out (by decide)), (h7.out.alloc o).kept hg (rows_ne h7.out h6.out (by decide)), (hb.alloc hb.size _).grown hg (by have := hb.size; simp; omega) (fun k e => (h6.out.lt k e).1)⟩
theorem fr_c {w w4 w5 : World} {v5 v6 v7 : Value} {n5 n6 n7 : Nat} {x5 x6 x7 : List Value} {o : Obj} (h5 : Hid (w4.ownsRow w.heap.size 5 1 v5 n5 x5)) (h6 : w4.ownsRow w.heap.size 24 1 v6 n6 x6) (h7 : Hid (w4.ownsRow w.heap.size 3 1 v7 n7 x7)) (hb : Below w.heap.size w w4) (hg : (w4.alloc o).grownBy w5 v7.ownBlock) :
    Hid (w5.ownsRow w.heap.size 5 1 v5 n5 x5) ∧ Hid (w5.ownsRow w.heap.size 24 1 v6 n6 x6) ∧ Below w.heap.size w w5 :=
  ⟨(h5.out.alloc o).kept hg (rows_ne h5.out h7.out (by decide)), (h6.alloc o).kept hg (rows_ne h6 h7.out (by decide)), (hb.alloc hb.size _).grown hg (by have := hb.size; simp; omega) (fun k e => (h7.out.lt k e).1)⟩
theorem gath_snoc {w W : World} {G : List Sl} {s : Sl} {v5 v6 v7 : Value} (hG : ∀ x ∈ G, x.zs.length = x.n) (h5 : Hid (W.ownsRow w.heap.size 5 1 v5 ((flat G).length + (8 + s.n)) (vals (flat G) ++ vals (frame s.zs)))) (h6 : Hid (W.ownsRow w.heap.size 24 1 v6 (G.length + 1) (G.map Sl.val ++ [s.val])))
    (h7 : W.ownsRow w.heap.size 3 1 v7 (G.length + 1) (ivals (plc 0 G) ++ [.int .i64 (((flat G).length : Int) + (8 + (s.n : Int)))])) (hl : s.zs.length = s.n) (hb : Below w.heap.size w W) : Gath w W (G ++ [s]) v5 v6 v7 := by
  refine ⟨?_, ?_, ?_, hb⟩
  · rw [flat_snoc, vals_append, List.length_append, frame_length, hl]; exact h5.out
  · rw [List.length_append, List.map_append]; exact h6.out
  · rw [plc_snoc, List.length_append, Nat.zero_add, ← flat_length G hG]
    unfold ivals at h7 ⊢
    rw [List.map_append]
    have e : (((flat G).length + (8 + s.n) : Nat) : Int) = ((flat G).length : Int) + (8 + (s.n : Int)) := by omega
    simpa [e] using h7

set_option maxHeartbeats 2000000 in
theorem framed_some (b off n cap : Nat) (ss : List Sl) (w : World) (hn : ss.length = n) (hs : ∀ s ∈ ss, Bs w s.a s.n s.cap s.zs ∧ s.n ≤ 140737488351232) (he : ∀ (i : Nat) (s : Sl), ss[i]? = some s → w.cell? ⟨b, off + i, none⟩ = some s.val) (hT : Tab w)
    (hsum : (ss.map fun s => 8 + s.n).sum ≤ 1099511627776) (hb : b < w.heap.size) :
    Calls Tryd.prog 5 #[.slice (some ⟨b, off, none⟩) n cap] w fun e w' => ∃ v5 v6 v7, e = .returned (.tuple #[v5, v6, v7]) ∧ Gath w w' (kept ss) v5 v6 v7 := by
  obtain ⟨i5, hi5, hz50, hz51, hz52⟩ := info_parts Tryd.info5
  obtain ⟨i22, hi22, hz220, hz221, hz222⟩ := info_parts Tryd.info24
  obtain ⟨i3, hi3, hz30, hz31, hz32⟩ := info_parts Tryd.info3
  have hnl : n ≤ 1099511627776 := by
    have : ∀ l : List Sl, l.length ≤ (l.map fun s => 8 + s.n).sum := by
      intro l
      induction l with
      | nil => simp
      | cons x r ih => simp; omega
    have := this ss; omega
  go_enter Tryd.func5, Tryd.ntmps5
  go_wp2
  go_loopw [5, 6, 7, 8] (fun v5 v6 v7 t wr => ∃ k : Nat, k ≤ n ∧ t = .int .i64 k ∧ Gath w wr (kept (ss.take k)) v5 v6 v7) (fun _ _ _ t _ => n - (intOf t).toNat)
  case atStart => exact ⟨0, by omega, rfl, World.ownsRow_nil _ _ _ _, World.ownsRow_nil _ _ _ _, World.ownsRow_nil _ _ _ _, Below.refl _ _⟩
  case round =>
    obtain ⟨k, hk, rfl, hG⟩ := hrel
    by_cases hlt : k < n
    · obtain ⟨s, hsk⟩ : ∃ s, ss[k]? = some s := ⟨ss[k]'(by omega), List.getElem?_eq_getElem _⟩
      have S := hs s (List.mem_of_getElem? hsk)
      have hcell : wr.cell? ⟨b, off + k, none⟩ = some (.slice s.a s.n s.cap) := (hG.below.cell (p := ⟨b, off + k, none⟩) hb).trans (he k s hsk)
      have KS := kept_snoc ss k s hsk
      have k0 : (0 : Int) ≤ k := by omega
      have k1 : (k : Int) < n := by omega
      have SB := S.1.below hG.below
      go_wp2_with fail
      refine (lent_row s.a s.n s.cap s.zs _ SB.len SB.has SB.oct SB.bare S.2).mono ?_
      rintro e w1 ⟨g1, cp1, rfl, hR1, hb1⟩
      have hG1 := hG.later hb1
      have T1 : Tab w1 := hT.below hG1.below hT.pos
      by_cases hsh : s.n ≤ 131072
      · go_wp2_with fail
        refine (frame_any (some ⟨g1, 0, none⟩) s.n cp1 s.zs _ hR1.len hR1.has (fun h => by cases h) hR1.oct T1 hsh).mono ?_
        rintro e w2 ⟨gf, rfl, hown2, hb2⟩
        have hG2 := hG1.later hb2
        rw [if_pos hsh] at KS
        have hGs : ∀ x ∈ kept (ss.take k), x.zs.length = x.n := fun x hx => (hs x (List.mem_of_mem_take (List.mem_filter.1 hx).1)).1.len
        have hFL : (flat (kept (ss.take k))).length ≤ 1099511627776 := by rw [flat_length _ hGs]; exact Nat.le_trans (kept_sum ss k) hsum
        have hGL : (kept (ss.take k)).length ≤ 1099511627776 := Nat.le_trans (kept_len ss k) (by omega)
        obtain ⟨G, hGe⟩ : ∃ G, kept (ss.take k) = G := ⟨_, rfl⟩
        rw [hGe] at hG2 KS hFL hGs hGL
        have HKS : Hid (kept (ss.take (k + 1)) = G ++ [s]) := KS
        have HN : Hid (s.zs.length = s.n) := hR1.len
        have HO : Hid (w2.ownsRow w1.heap.size 5 1 (.slice (some ⟨gf, 0, none⟩) (8 + s.n) (8 + s.n)) (8 + s.n) (vals (frame s.zs))) := hown2
        have hbw2 : Below w.heap.size w w2 := hG2.below
        have hck : w.cell? ⟨b, off + k, none⟩ = some (.slice s.a s.n s.cap) := he k s hsk
        clear KS hGe hG hG1 hR1 hb1 hb2 SB hown2 T1 hcell
        go_wp2_with (first
          | (at_builtin; refine wpList_append_form _ rfl (.tmp 28) (.tmp 29) 24 rfl w.heap.size 5 i5 (.int .u8 0) 1 1 Tryd.underlying24 hi5 hz50 hz51 hz52 rfl (by decide) u5 (flat G).length (vals (flat G)) rfl hG2.b ⟨gf, 0, none⟩ (8 + s.n) (8 + s.n) (vals (frame s.zs)) rfl (by rw [vals_length, frame_length, HN.out]; omega) (HO.out.cells rfl) (vals_one _) (by omega) (by unfold maxLen; omega) (by omega) hbw2.size ?_; intro g5 c5 w3 hown3 hgrow3; obtain ⟨o6, o7, hb3⟩ := fr_a hG2 hgrow3; have hc3 : w3.cell? ⟨b, off + k, none⟩ = some (.slice s.a s.n s.cap) := (hb3.cell (p := ⟨b, off + k, none⟩) hb).trans hck; clear hgrow3 hG2)
          | (at_builtin; refine wpList_append_form _ rfl (.tmp 31) (.tmp 36) 22 rfl w.heap.size 24 i22 (.slice none 0 0) 1 24 Tryd.underlying22 hi22 hz220 hz221 hz222 rfl (by decide) u6 G.length (G.map Sl.val) rfl (o6.out.alloc _) ⟨w3.heap.size, 0, none⟩ 1 1 [s.val] rfl rfl (cell_one_new _ _ _) (by intro u hu; simp at hu; subst hu; rfl) (by omega) (by unfold maxLen; omega) (by omega) (by have := hb3.size; simp; omega) ?_; intro g6 c6 w4 hown4 hgrow4; obtain ⟨o5, o7', hb4⟩ := fr_b hown3 o6 o7 hb3 hgrow4; clear hgrow4 hown3)
          | (at_builtin; refine wpList_append_form _ rfl (.tmp 38) (.tmp 41) 25 rfl w.heap.size 3 i3 (.int .i64 0) 1 8 Tryd.underlying25 hi3 hz30 hz31 hz32 rfl (by decide) u7 G.length (ivals (plc 0 G)) rfl (o7'.out.alloc _) ⟨w4.heap.size, 0, none⟩ 1 1 [.int .i64 (((flat G).length : Int) + (8 + (s.n : Int)))] rfl rfl (cell_one_new _ _ _) (by intro u hu; simp at hu; subst hu; rfl) (by omega) (by unfold maxLen; omega) (by omega) (by have := hb4.size; simp; omega) ?_; intro g7 c7 w5 hown5 hgrow5; obtain ⟨o5', o6', hb5⟩ := fr_c o5 hown4 o7' hb4 hgrow5; clear hgrow5 hown4))
        go_roundw
        case rel => exact ⟨k + 1, by omega, by go_num, by rw [HKS.out]; exact gath_snoc hGs o5' o6' hown5 HN.out hb5⟩
        case measure => simp [intOf]; omega
      · go_wp2_with fail
        refine (frame_long (some ⟨g1, 0, none⟩) s.n cp1 _ (by omega) (by have := S.2; omega)).mono ?_
        rintro e w2 ⟨rfl, hw2⟩
        subst hw2
        rw [if_neg hsh, List.append_nil] at KS
        have hG2 : Gath w w2 (kept (ss.take (k + 1))) u5 u6 u7 := by rw [KS]; exact hG1
        clear hG hG1 KS hR1 hb1 SB
        go_wp2
        go_roundw
        case rel => exact ⟨k + 1, by omega, by go_num, hG2⟩
        case measure => simp [intOf]; omega
    · have hE : ss.take k = ss := List.take_of_length_le (by omega)
      rw [hE] at hG
      go_wp2
      go_ret3
      exact ⟨_, _, _, rfl, hG⟩

set_option maxHeartbeats 1000000 in
theorem framed_empty (a : Option Addr) (cap : Nat) (w : World) :
    Calls Tryd.prog 5 #[.slice a 0 cap] w fun e w' => ∃ v5 v6 v7, e = .returned (.tuple #[v5, v6, v7]) ∧ Gath w w' [] v5 v6 v7 := by
  go_enter Tryd.func5, Tryd.ntmps5
  go_wp2
  refine wp_loop_rounds 1 ?_
  rw [rounds_succ]
  go_wp2
  go_ret3
  exact ⟨_, _, _, rfl, World.ownsRow_nil _ _ _ _, World.ownsRow_nil _ _ _ _, World.ownsRow_nil _ _ _ _, Below.refl _ _⟩

theorem framed_any (a : Option Addr) (n cap : Nat) (ss : List Sl) (w : World) (hn : ss.length = n) (hL : LL w a ss) (hs : ∀ s ∈ ss, s.n ≤ 140737488351232) (hT : Tab w) (hsum : (ss.map fun s => 8 + s.n).sum ≤ 1099511627776) :
    Calls Tryd.prog 5 #[.slice a n cap] w fun e w' => ∃ v5 v6 v7, e = .returned (.tuple #[v5, v6, v7]) ∧ Gath w w' (kept ss) v5 v6 v7 := by
  by_cases h0 : ss = []
  · subst h0; simp at hn; subst hn
    exact framed_empty a cap w
  rcases hL.2 with h | ⟨b, off, rfl, e⟩
  · exact absurd h h0
  · have hp : 0 < ss.length := List.length_pos_iff.2 h0
    have hb : b < w.heap.size := by
      have := World.block_lt_of_cell? w _ (e 0 ss[0] (List.getElem?_eq_getElem hp)); simpa using this
    exact framed_some b off n cap ss w hn (fun s h => ⟨hL.1 s h, hs s h⟩) e hT hsum hb
end Go.Proofs.YtapejmmefhbadaaDoor
