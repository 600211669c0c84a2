/-
  The contracts of kept, and of the document's own Frame.
-/
import Derived.Test.YteeclghhoioapaaDoorRefSum
import Derived.Test.YteeclghhoioapaaDoorParts
namespace Go.Proofs.YteeclghhoioapaaDoor
set_option maxRecDepth 4000
open Go.RowKit
set_option linter.unusedVariables false

/-- Bytes in memory of their own, the two marks behind them. -/
structure Row (w : World) (base g n cap : Nat) (zs : List Int) : Prop where
  len : zs.length = n
  oct : Octets zs
  small : n ≤ 140737488351232
  owns : w.ownsRow base 5 1 (.slice (some ⟨g, 0, none⟩) (n + 2) cap) (n + 2) (vals (zs ++ [201, 202]))
theorem Row.cap {w : World} {base g n cap : Nat} {zs : List Int} (h : Row w base g n cap zs) : n + 2 ≤ cap ∧ cap ≤ maxLen := own_cap h.owns
theorem Row.lt {w : World} {base g n cap : Nat} {zs : List Int} (h : Row w base g n cap zs) : base ≤ g ∧ g < w.heap.size := h.owns.lt g rfl
theorem Row.has {w : World} {base g n cap : Nat} {zs : List Int} (h : Row w base g n cap zs) : Has w (some ⟨g, 0, none⟩) zs := by
  rcases own_has h.owns with ⟨h, _⟩ | ⟨x, hx, hB⟩
  · cases h
  · refine .inr ⟨x, hx, fun j hj => ?_⟩
    rw [hB j (by simp; omega)]
    simp [List.getD, List.getElem?_append_left hj]
theorem Row.bs {w : World} {base g n cap : Nat} {zs : List Int} (h : Row w base g n cap zs) : Bs w (some ⟨g, 0, none⟩) n cap zs := by
  have hc := h.cap; have := h.small
  exact ⟨h.len, h.has, h.oct, (fun h => by cases h), by omega, hc.2, by omega⟩
theorem Row.cellAt {w : World} {base g n cap : Nat} {zs : List Int} (h : Row w base g n cap zs) (j : Nat) (hj : j < n + 2) : w.cell? ⟨g, j, none⟩ = some (.int .u8 ((zs ++ [201, 202]).getD j 0)) := by
  rw [h.owns.cellAt j (by omega), vals_get _ j (by simp; have := h.len; omega)]
theorem Row.marks {w : World} {base g n cap : Nat} {zs : List Int} (h : Row w base g n cap zs) : w.cell? ⟨g, n, none⟩ = some (.int .u8 201) ∧ w.cell? ⟨g, n + 1, none⟩ = some (.int .u8 202) := by
  have hn := h.len
  refine ⟨?_, ?_⟩
  · rw [h.cellAt n (by omega)]; simp [List.getD, ← hn]
  · rw [h.cellAt (n + 1) (by omega)]; simp [List.getD, ← hn]
theorem Row.below {w w' : World} {B base g n cap : Nat} {zs : List Int} (h : Row w base g n cap zs) (hb : Below B w w') (hg : g < B) : Row w' base g n cap zs :=
  ⟨h.len, h.oct, h.small, by
    refine ⟨h.owns.1, ?_⟩
    rcases h.owns.2 with ⟨h, _⟩ | ⟨g', cap', cur, hv, hbg, hgg, rest⟩
    · cases h
    · cases hv
      exact .inr ⟨g, cap, cur, rfl, hbg, (hb.block g hg).trans hgg, rest⟩⟩

theorem wpList_append_form {P : Program} (w : World) {ops : Array Oper} {rest : List Oper} {o : Oper} {a : Act} {Q : Exit → Act → World → Prop} (hgd : o.guard = none) (s x : Operand) (t : TypeId)
    (ho : o.op = .call { callee := .builtin .append, args := #[s, x], argTypes := #[t, t] })
    (base : Nat) (e : TypeId) (i : TypeInfo) (z : Value) (size bytes : Nat) (ht : P.underlying t = some (.slice e)) (hi : P.info? e = some i) (hz : i.zero = some z)
    (hsize : i.size = size) (hby : i.bytes = bytes) (hzs : z.cells.size = size) (hsz : 0 < size)
    (v : Value) (n : Nat) (xs : List Value) (hs : a.eval s = v) (hown : w.ownsRow base e size v n xs)
    (ad : Addr) (m c : Nat) (news : List Value) (hx : a.eval x = .slice (some ad) m c) (hl : news.length = m * size) (hnews : ∀ j u, news[j]? = some u → w.cell? (ad.add j) = some u) (h1 : ∀ u ∈ news, u.oneCell' = true)
    (hnm : 0 < n + m) (h63 : n + m ≤ maxLen) (hbytes : (n + m) * bytes ≤ 140737488355328) (hbase : base ≤ w.heap.size)
    (h : ∀ g cap w', w'.ownsRow base e size (.slice (some ⟨g, 0, none⟩) (n + m) cap) (n + m) (xs ++ news) → w.grownBy w' v.ownBlock → wpList P ops Q rest (a.put o.dst (.slice (some ⟨g, 0, none⟩) (n + m) cap)) w') : wpList P ops Q (o :: rest) a w :=
  wpList_append_own w hgd s x t ho base e i z size bytes ht hi hz hsize hby hzs hsz v n xs hs hown ad m c news hx hl hnews h1 h63 hbytes hbase (fun v' w' ho' hg _ => by
    obtain ⟨g, cap, rfl, _⟩ := ho'.form hnm
    exact h g cap w' ho' hg)
theorem has_news {w w' : World} {x : Addr} {zs : List Int} (HB : Hid (Has w (some x) zs)) (hb : Below w.heap.size w w') : ∀ j u, (vals zs)[j]? = some u → w'.cell? (x.add j) = some u := fun j u h => by
  obtain ⟨hj, rfl⟩ := vals_at zs j u h
  rcases HB.out.of_below hb with ⟨h, _⟩ | ⟨x', hx, hB⟩
  · cases h
  · cases hx; exact hB j hj
theorem own_below {w w' : World} {B base g n cap : Nat} {xs : List Value} (h : w.ownsRow base 5 1 (.slice (some ⟨g, 0, none⟩) n cap) n xs) (hb : Below B w w') (hg : g < B) : w'.ownsRow base 5 1 (.slice (some ⟨g, 0, none⟩) n cap) n xs := by
  refine ⟨h.1, ?_⟩
  rcases h.2 with ⟨h, _⟩ | ⟨g', cap', cur, hv, hbg, hgg, rest⟩
  · cases h
  · cases hv
    exact .inr ⟨g, cap, cur, rfl, hbg, (hb.block g hg).trans hgg, rest⟩
theorem rf_two {w w1 w2 : World} {x : Addr} {zs : List Int} {g2 cap2 n : Nat} (H1 : Hid (w1.ownsRow w.heap.size 5 1 (.slice (some ⟨w.heap.size, 0, none⟩) 4 4) 4 (vals (four n)))) (B1 : Hid (Below w.heap.size w w1)) (HB : Hid (Has w (some x) zs))
    (hown2 : w2.ownsRow w.heap.size 5 1 (.slice (some ⟨g2, 0, none⟩) (0 + 4) cap2) (0 + 4) ([] ++ vals (four n))) (hg : w1.grownBy w2 (Value.slice none 0 0).ownBlock) (hat : (Value.slice none 0 0).ownBlock = some g2 ∨ g2 = w1.heap.size) :
    Hid (w2.ownsRow w.heap.size 5 1 (.slice (some ⟨g2, 0, none⟩) 4 cap2) 4 (vals (four n))) ∧ Hid (Below w.heap.size w w2) ∧ Hid (w2.ownsRow w.heap.size 5 1 (.slice (some ⟨w.heap.size, 0, none⟩) 4 4) 4 (vals (four n))) ∧ Hid (∀ j u, (vals zs)[j]? = some u → w2.cell? (x.add j) = some u) ∧ w.heap.size < g2 := by
  have b2 : Below w.heap.size w w2 := B1.out.grown hg B1.out.size (fun k h => by simp [Value.ownBlock] at h)
  have hs : w.heap.size < w1.heap.size := (H1.out.lt _ rfl).2
  refine ⟨hown2, b2, H1.out.kept hg (.inr (by simp [Value.ownBlock])), has_news HB b2, ?_⟩
  rcases hat with h | h
  · simp [Value.ownBlock] at h
  · omega
theorem rf_three {w w2 w3 : World} {zs : List Int} {g2 cap2 g3 cap3 n : Nat} (O2 : Hid (w2.ownsRow w.heap.size 5 1 (.slice (some ⟨g2, 0, none⟩) 4 cap2) 4 (vals (four n)))) (B2 : Hid (Below w.heap.size w w2)) (S2 : Hid (w2.ownsRow w.heap.size 5 1 (.slice (some ⟨w.heap.size, 0, none⟩) 4 4) 4 (vals (four n)))) (hne : w.heap.size < g2)
    (hown3 : w3.ownsRow w.heap.size 5 1 (.slice (some ⟨g3, 0, none⟩) (4 + n) cap3) (4 + n) (vals (four n) ++ vals zs)) (hg : w2.grownBy w3 (Value.slice (some ⟨g2, 0, none⟩) 4 cap2).ownBlock) :
    Hid (w3.ownsRow w.heap.size 5 1 (.slice (some ⟨g3, 0, none⟩) (4 + n) cap3) (4 + n) (vals (four n ++ zs))) ∧ Hid (Below w.heap.size w w3) ∧ Hid (w3.ownsRow w.heap.size 5 1 (.slice (some ⟨w.heap.size, 0, none⟩) 4 4) 4 (vals (four n))) := by
  rw [← vals_append] at hown3
  exact ⟨hown3, B2.out.grown hg B2.out.size (fun k h => (O2.out.lt k h).1), S2.out.kept hg (.inr (by simp [Value.ownBlock]; omega))⟩
theorem rf_four {w w3 w4 : World} {zs : List Int} {g3 cap3 g4 cap4 n : Nat} (O3 : Hid (w3.ownsRow w.heap.size 5 1 (.slice (some ⟨g3, 0, none⟩) (4 + n) cap3) (4 + n) (vals (four n ++ zs)))) (B3 : Hid (Below w.heap.size w w3))
    (hown4 : w4.ownsRow w.heap.size 5 1 (.slice (some ⟨g4, 0, none⟩) (0 + 4) cap4) (0 + 4) ([] ++ vals (four n))) (hg : w3.grownBy w4 (Value.slice none 0 0).ownBlock) :
    Hid (w4.ownsRow w.heap.size 5 1 (.slice (some ⟨g4, 0, none⟩) 4 cap4) 4 (vals (four n))) ∧ Hid (Below w.heap.size w w4) ∧ Hid (Has w4 (some ⟨g3, 0, none⟩) (four n ++ zs)) :=
  ⟨hown4, B3.out.grown hg B3.out.size (fun k h => by simp [Value.ownBlock] at h), own_has (O3.out.kept hg (.inr (by simp [Value.ownBlock])))⟩

set_option maxHeartbeats 1000000 in
theorem kept_any (base g n cap : Nat) (a2 : Option Addr) (cap2 : Nat) (zs : List Int) (w : World) (hR : Row w base g n cap zs) (hB : Has w a2 zs) :
    Calls Tryd.prog 15 #[.slice (some ⟨g, 0, none⟩) n cap, .slice a2 n cap2] w fun e w' => e = .returned (.bool true) ∧ w' = w := by
  have s1 := str_of w (some ⟨g, 0, none⟩) n cap zs hR.len hR.has
  have s2 := str_of w a2 n cap2 zs hR.len hB
  obtain ⟨m1, m2⟩ := hR.marks
  obtain ⟨c1, c2⟩ := hR.cap
  have c3 := hR.small
  unfold maxLen at c2
  have k1 : (0 : Int) ≤ n := by omega
  have k2 : (n : Int) + 2 ≤ cap := by omega
  clear hR hB
  go_enter Tryd.func15, Tryd.ntmps15
  go_wp2
  go_ret
  exact ⟨rfl, rfl⟩

set_option maxHeartbeats 1000000 in
theorem rframe_long (a : Option Addr) (n cap : Nat) (w : World) (hl : 131072 < n) (hm : n ≤ 140737488355328) :
    Calls Tryd.prog 32 #[.slice a n cap] w fun e w' => e = .returned (.tuple #[.slice none 0 0, .int .i64 3]) ∧ w' = w := by
  go_enter Tryd.func32, Tryd.ntmps32
  go_wp2
  go_ret2
  exact ⟨rfl, rfl⟩

theorem frame_ref (zs : List Int) (hz : Octets zs) (hl : zs.length ≤ 131072) : sumOf zs = moreF 0 (four zs.length ++ zs) := by
  unfold sumOf check
  exact moreF_append 0 (four zs.length) zs (four_octets _ (by omega) (by omega)) (by decide) (by decide)

set_option maxHeartbeats 1000000 in
theorem rframe_some (x : Addr) (n cap : Nat) (zs : List Int) (w : World) (hn : zs.length = n) (hB : ∀ j, j < zs.length → w.cell? (x.add j) = some (.int .u8 (zs.getD j 0))) (hz : Octets zs) (hl : n ≤ 131072) :
    Calls Tryd.prog 32 #[.slice (some x) n cap] w fun e w' => ∃ g cp, e = .returned (.tuple #[.slice (some ⟨g, 0, none⟩) (8 + n) cp, .int .i64 0]) ∧ w'.ownsRow w.heap.size 5 1 (.slice (some ⟨g, 0, none⟩) (8 + n) cp) (8 + n) (vals (frame zs)) ∧ Below w.heap.size w w' := by
  obtain ⟨i0, hi, hz0, hz1, hz2⟩ := info_parts Tryd.info5
  have HN : Hid (zs.length = n) := hn
  have HB : Hid (Has w (some x) zs) := .inr ⟨x, rfl, hB⟩
  obtain ⟨y, hy⟩ : ∃ y, sumOf zs = y := ⟨_, rfl⟩
  have HY : Hid (moreF 0 (four n ++ zs) = y) := by
    show moreF 0 (four n ++ zs) = y
    rw [← hy, frame_ref zs hz (by omega), hn]
  have HF : Hid (vals (frame zs) = vals (four n) ++ vals (four y) ++ vals zs) := by
    show vals (frame zs) = _
    unfold frame; rw [vals_append, vals_append, hn, hy, List.append_assoc]
  have yb := sumOf_bd zs hz (by omega)
  rw [hy] at yb
  obtain ⟨y0, y1⟩ := yb
  have O4 := four_octets n (by omega) (by omega)
  clear hB hn hy
  go_enter Tryd.func32, Tryd.ntmps32
  go_wp2_with fail
  refine (rfour_any n _ (by omega) (by omega)).mono ?_
  rintro e w1 ⟨rfl, hown1, hb1⟩
  have H1 : Hid (w1.ownsRow w.heap.size 5 1 (.slice (some ⟨w.heap.size, 0, none⟩) 4 4) 4 (vals (four n))) := hown1
  have B1 : Hid (Below w.heap.size w w1) := hb1
  clear hown1 hb1
  go_wp2_with (first
    | (at_builtin; refine wpList_append_lies _ rfl (.tmp 14) (.tmp 15) 24 rfl w.heap.size 5 i0 (.int .u8 0) 1 1 Tryd.underlying24 hi hz0 hz1 hz2 rfl (by decide) (.slice none 0 0) 0 [] rfl (World.ownsRow_nil _ _ _ _) ⟨w.heap.size, 0, none⟩ 4 4 (vals (four n)) rfl rfl (H1.out.cells rfl) (vals_one _) (by decide) (by decide) (by decide) B1.out.size _ rfl ?_; intro g2 cap2 w2 hown2 hgrow2 hat2 _; obtain ⟨O2, B2, S2, N2, hne⟩ := rf_two H1 B1 HB hown2 hgrow2 hat2; clear hown2 hgrow2 hat2)
    | (at_builtin; refine wpList_append_form _ rfl (.tmp 16) (.tmp 17) 24 rfl w.heap.size 5 i0 (.int .u8 0) 1 1 Tryd.underlying24 hi hz0 hz1 hz2 rfl (by decide) (.slice (some ⟨g2, 0, none⟩) 4 cap2) 4 (vals (four n)) rfl O2.out x n cap (vals zs) rfl (by rw [vals_length, HN.out]; omega) N2.out (vals_one _) (by omega) (by unfold maxLen; omega) (by omega) B2.out.size ?_; intro g3 cap3 w3 hown3 hgrow3; obtain ⟨O3, B3, S3⟩ := rf_three O2 B2 S2 hne hown3 hgrow3; clear hown3 hgrow3)
    | (at_builtin; refine wpList_append_form _ rfl (.tmp 19) (.tmp 20) 24 rfl w.heap.size 5 i0 (.int .u8 0) 1 1 Tryd.underlying24 hi hz0 hz1 hz2 rfl (by decide) (.slice none 0 0) 0 [] rfl (World.ownsRow_nil _ _ _ _) ⟨w.heap.size, 0, none⟩ 4 4 (vals (four n)) rfl rfl (S3.out.cells rfl) (vals_one _) (by decide) (by decide) (by decide) B3.out.size ?_; intro g4 cap4 w4 hown4 hgrow4; obtain ⟨O4', B4, N4⟩ := rf_four O3 B3 hown4 hgrow4; clear hown4 hgrow4)
    | fail)
  refine (rsum_any 0 (some ⟨g3, 0, none⟩) (4 + n) cap3 (four n ++ zs) _ (by rw [List.length_append, HN.out]; rfl) N4.out (O4.append hz) (by decide) (by decide) (by omega)).mono ?_
  rintro e w5 ⟨rfl, hb5⟩
  rw [HY.out]
  have hg4 := (O4'.out.lt g4 rfl).2
  have O5 : Hid (w5.ownsRow w.heap.size 5 1 (.slice (some ⟨g4, 0, none⟩) 4 cap4) 4 (vals (four n))) := own_below O4'.out hb5 hg4
  have B5 : Hid (Below w.heap.size w w5) := B4.out.trans (hb5.mono B4.out.size)
  have hg5 : g4 < w5.heap.size := (O5.out.lt g4 rfl).2
  clear hb5 O4' B4 N4 O3 B3 S3 O2 B2 S2 N2 H1 B1 hg4
  go_wp2_with fail
  refine (rfour_any y _ y0 y1).mono ?_
  rintro e w6 ⟨rfl, hown6, hb6⟩
  have H6 : Hid (w6.ownsRow w5.heap.size 5 1 (.slice (some ⟨w5.heap.size, 0, none⟩) 4 4) 4 (vals (four y))) := hown6
  have B6 : Hid (Below w.heap.size w w6) := B5.out.trans (hb6.mono B5.out.size)
  have O6 : Hid (w6.ownsRow w.heap.size 5 1 (.slice (some ⟨g4, 0, none⟩) 4 cap4) 4 (vals (four n))) := own_below O5.out hb6 hg5
  clear hown6 hb6 O5 B5
  go_wp2_with (first
    | (at_builtin; refine wpList_append_form _ rfl (.tmp 21) (.tmp 24) 24 rfl w.heap.size 5 i0 (.int .u8 0) 1 1 Tryd.underlying24 hi hz0 hz1 hz2 rfl (by decide) (.slice (some ⟨g4, 0, none⟩) 4 cap4) 4 (vals (four n)) rfl O6.out ⟨w5.heap.size, 0, none⟩ 4 4 (vals (four y)) rfl rfl (H6.out.cells rfl) (vals_one _) (by decide) (by decide) (by decide) B6.out.size ?_; intro g7 cap7 w7 hown7 hgrow7; have B7 : Hid (Below w.heap.size w w7) := B6.out.grown hgrow7 B6.out.size (fun k h => (O6.out.lt k h).1); have O7 : Hid (w7.ownsRow w.heap.size 5 1 (.slice (some ⟨g7, 0, none⟩) 8 cap7) 8 (vals (four n) ++ vals (four y))) := hown7; clear hown7 hgrow7)
    | (at_builtin; refine wpList_append_form _ rfl (.tmp 26) (.tmp 27) 24 rfl w.heap.size 5 i0 (.int .u8 0) 1 1 Tryd.underlying24 hi hz0 hz1 hz2 rfl (by decide) (.slice (some ⟨g7, 0, none⟩) 8 cap7) 8 (vals (four n) ++ vals (four y)) rfl O7.out x n cap (vals zs) rfl (by rw [vals_length, HN.out]; omega) (has_news HB B7.out) (vals_one _) (by omega) (by unfold maxLen; omega) (by omega) B7.out.size ?_; intro g8 cap8 w8 hown8 hgrow8; have B8 : Hid (Below w.heap.size w w8) := B7.out.grown hgrow8 B7.out.size (fun k h => (O7.out.lt k h).1); clear hgrow8)
    | fail)
  go_ret2
  exact ⟨_, _, rfl, by rw [HF.out]; exact hown8, B8.out⟩
end Go.Proofs.YteeclghhoioapaaDoor
