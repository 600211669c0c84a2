/-
  The walk of SumTurned.
-/
import Derived.Test.YtcjefhgnmpomjaaDoorTurnBits
import Derived.Test.YtcjefhgnmpomjaaDoorCut
namespace Go.Proofs.YtcjefhgnmpomjaaDoor
open Go.RowKit
set_option linter.unusedVariables false

/-- What framed has gathered, its bytes being others now. -/
structure GathY (w : World) (W : World) (gs : List Sl) (g n cp : Nat) (ys : List Int) (v6 v7 : Value) : Prop where
  b : W.ownsRow w.heap.size 5 1 (.slice (some ⟨g, 0, none⟩) n cp) n (vals ys)
  good : W.ownsRow w.heap.size 22 1 v6 gs.length (gs.map Sl.val)
  places : W.ownsRow w.heap.size 3 1 v7 gs.length (ivals (plc 0 gs))
  below : Below w.heap.size w W
theorem vals_set' (zs : List Int) (i : Nat) (z : Int) : vals (zs.set i z) = (vals zs).set i (.int .u8 z) := by simp [vals, List.map_set]
theorem GathY.stored {w W : World} {gs : List Sl} {g n cp : Nat} {ys : List Int} {v6 v7 : Value} (h : GathY w W gs g n cp ys v6 v7) (j : Nat) (z : Int) : GathY w (W.setCell ⟨g, j, none⟩ (.int .u8 z)) gs g n cp (ys.set j z) v6 v7 := by
  obtain ⟨h1, h2⟩ := h.b.stored j (.int .u8 z)
  refine ⟨by rw [vals_set']; exact h1, h.good.kept h2 (rows_ne h.good h.b (by decide)), h.places.kept h2 (rows_ne h.places h.b (by decide)), h.below.setCell (h.b.lt g rfl).1 _⟩

theorem GathY.later {w W W' : World} {gs : List Sl} {g n cp : Nat} {ys : List Int} {v6 v7 : Value} (h : GathY w W gs g n cp ys v6 v7) (hb : Below W.heap.size W W') : GathY w W' gs g n cp ys v6 v7 :=
  ⟨own_belowV h.b hb (Nat.le_refl _), own_belowV h.good hb (Nat.le_refl _), own_belowV h.places hb (Nat.le_refl _), h.below.trans (hb.mono h.below.size)⟩
theorem mid_get (A M C : List Int) (J : Nat) (x : Int) (h : M[J]? = some x) : (A ++ M ++ C)[A.length + J]? = some x := by
  have hj := (List.getElem?_eq_some_iff.1 h).1
  rw [List.append_assoc, List.getElem?_append_right (by omega), List.getElem?_append_left (by omega), show A.length + J - A.length = J by omega, h]
theorem mid_set (A M C : List Int) (J : Nat) (y : Int) (h : J < M.length) : (A ++ M ++ C).set (A.length + J) y = A ++ M.set J y ++ C := by
  rw [List.append_assoc, List.set_append_right _ _ (by omega), show A.length + J - A.length = J by omega, List.set_append_left _ _ h, List.append_assoc]
theorem vals_get' {zs : List Int} {i : Nat} {x : Int} (h : zs[i]? = some x) : (vals zs)[i]? = some (.int .u8 x) := by simp [vals, h]
theorem turn_xor (x : Int) (m : Nat) (h0 : 0 ≤ x) (h1 : x ≤ 255) (hm : m < 8) : (bits BinOp.xor IntKind.u8 x (2 ^ m % 256)).toNat = x.toNat ^^^ 2 ^ m ∧ 0 ≤ bits BinOp.xor IntKind.u8 x (2 ^ m % 256) ∧ bits BinOp.xor IntKind.u8 x (2 ^ m % 256) ≤ 255 := by
  have h2 : (2 : Nat) ^ m < 256 := by
    have : (2 : Nat) ^ m ≤ 2 ^ 7 := Nat.pow_le_pow_right (by omega) (by omega)
    omega
  have h3 : ((2 : Int) ^ m) = ((2 ^ m : Nat) : Int) := by simp
  rw [h3]
  obtain ⟨N, hN⟩ : ∃ N : Nat, 2 ^ m = N := ⟨_, rfl⟩
  rw [hN] at h2 ⊢
  have h6 : (N : Int) % 256 = (N : Int) := by omega
  rw [h6, u8_xor x (N : Int) h0 (by omega) (by omega) (by omega)]
  have h5 : x.toNat ^^^ N < 2 ^ 8 := Nat.xor_lt_two_pow (by omega) (by omega)
  have h7 : (N : Int).toNat = N := Int.toNat_natCast N
  rw [h7]
  exact ⟨by simp, by omega, by omega⟩

set_option maxRecDepth 100000 in
set_option maxHeartbeats 4000000 in
theorem turned_any (al : Option Addr) (nl cl : Nat) (ss : List Sl) (q p tt : Int) (w : World) (hnl : ss.length = nl) (hL : LL w al ss) (hs : ∀ s ∈ ss, s.n ≤ 140737488351232) (hT : Tab w) (hsum : (ss.map fun s => 8 + s.n).sum ≤ 68719476736)
    (hq0 : -9223372036854775808 ≤ q) (hq1 : q ≤ 9223372036854775807) (hp0 : -9223372036854775808 ≤ p) (hp1 : p ≤ 9223372036854775807) (ht0 : 0 ≤ tt) (ht1 : tt < 4294967296) :
    Calls Tryd.prog 7 #[.agg #[.slice al nl cl, .int .i64 q, .int .i64 p, .int .u32 tt]] w fun e w' => e = .returned (.bool true) ∧ Below w.heap.size w w' := by
  go_enter Tryd.func7, Tryd.ntmps7
  go_wp2_with fail
  obtain ⟨w0, hw0⟩ : ∃ w0, w.alloc (Obj.cells #[Value.slice al nl cl, Value.int IntKind.i64 q, Value.int IntKind.i64 p, Value.int IntKind.u32 tt] 52) = w0 := ⟨_, rfl⟩
  have b0 : Below w.heap.size w w0 := by rw [← hw0]; exact (Below.refl _ _).alloc (Nat.le_refl _) _
  have hlt : w.heap.size < w0.heap.size := by rw [← hw0]; simp
  have hob : w0.heap[w.heap.size]? = some (Obj.cells #[Value.slice al nl cl, Value.int IntKind.i64 q, Value.int IntKind.i64 p, Value.int IntKind.u32 tt] 52 (0, 0)) := by rw [← hw0]; exact heap_alloc_new _ _
  rw [hw0]
  clear hw0
  refine (awake_any _ (hT.below b0 hT.pos)).mono ?_
  rintro e wA ⟨rfl, hbA0⟩
  have hobA := (hbA0.block _ hlt).trans hob
  have hbA : Below w.heap.size w wA := b0.trans (hbA0.mono b0.size)
  have f0 : wA.cell? ⟨w.heap.size, 0, none⟩ = some (.slice al nl cl) := by simp [World.cell?, hobA]
  have f1 : wA.cell? ⟨w.heap.size, 1, none⟩ = some (.int .i64 q) := by simp [World.cell?, hobA]
  have f2 : wA.cell? ⟨w.heap.size, 2, none⟩ = some (.int .i64 p) := by simp [World.cell?, hobA]
  have f3 : wA.cell? ⟨w.heap.size, 3, none⟩ = some (.int .u32 tt) := by simp [World.cell?, hobA]
  have LA := hL.below hbA
  have TA : Tab wA := hT.below hbA hT.pos
  clear hob hobA hbA0
  go_wp2_with fail
  refine (framed_any al nl cl ss _ hnl LA hs TA (by omega)).mono ?_
  rintro e w1 ⟨v5, v6, v7, rfl, hG⟩
  obtain ⟨G, hGe⟩ : ∃ G, kept ss = G := ⟨_, rfl⟩
  have hfit : Fit G := by
    rw [← hGe]; intro s h
    obtain ⟨h1, h2⟩ := List.mem_filter.1 h
    have := hL.1 s h1
    exact ⟨this.len, by simpa [short] using h2, this.oct⟩
  have hFL : (flat G).length ≤ 68719476736 := by
    rw [flat_length G (fun s h => (hfit s h).1), ← hGe]
    have := kept_sum ss ss.length
    rw [List.take_length] at this; omega
  have hGB : ∀ s ∈ G, Bs wA s.a s.n s.cap s.zs := by
    rw [← hGe]; intro s h
    exact LA.1 s (List.mem_filter.1 h).1
  rw [hGe] at hG
  have hoct := flat_octets G hfit
  have hGl : G.length ≤ 68719476736 := by
    have : ∀ l : List Sl, l.length ≤ (flat l).length := by
      intro l
      induction l with
      | nil => simp
      | cons x r ih => simp only [flat, List.flatMap_cons, List.length_append, frame_length, List.length_cons] at *; omega
    exact Nat.le_trans (this G) hFL
  have B1 : Below w.heap.size w w1 := hbA.trans (hG.below.mono hbA.size)
  clear hGe LA TA
  rcases Nat.eq_zero_or_pos G.length with hz | hpos
  · obtain ⟨a6, c6, rfl, _⟩ := own_ll hG.good (fun s h => (hGB s h).below hG.below)
    rw [hz]
    go_wp2
    go_ret
    exact ⟨rfl, B1⟩
  have hfp : 0 < (flat G).length := by
    cases G with
    | nil => simp at hpos
    | cons x r => simp only [flat, List.flatMap_cons, List.length_append, frame_length]; omega
  obtain ⟨g, cp, hv5⟩ : ∃ g cp, v5 = .slice (some ⟨g, 0, none⟩) (flat G).length cp := by
    rcases hG.b.2 with ⟨_, h0⟩ | ⟨g, cp, cur, h, _⟩
    · omega
    · exact ⟨g, cp, h⟩
  subst hv5
  have hY : GathY wA w1 G g (flat G).length cp (flat G) v6 v7 := ⟨hG.b, hG.good, hG.places, hG.below⟩
  clear hG
  obtain ⟨n, hn⟩ : ∃ n, (flat G).length = n := ⟨_, rfl⟩
  have HN : Hid ((flat G).length = n) := hn
  rw [hn] at hY hFL hfp ⊢
  clear hn
  have HY : Hid (GathY wA w1 G g n cp (flat G) v6 v7) := hY
  obtain ⟨a6, c6, rfl, hL6, hc6, hn6⟩ := own_ll hY.good (fun s h => (hGB s h).below hY.below)
  obtain ⟨a7, c7, rfl, hI7⟩ := own_ints hY.places
  clear hY
  have hne0 : ¬ G.length = 0 := by omega
  by_cases htz : tt = 0
  · subst htz
    go_wp2
    go_ret
    exact ⟨rfl, B1⟩
  have ht0' : 0 < tt := by omega
  go_wp2_with fail
  · rename_i hcc
    exfalso
    rcases hcc with h | h
    · have := eq_of_beq h; omega
    · have := eq_of_beq h; omega
  refine (round_any q G.length _ hpos (by omega) hq0 hq1).mono ?_
  rintro e w2 ⟨k, hk, rfl, hw2⟩
  have hw2 := hw2.symm
  subst hw2
  rcases hI7 with h0 | ⟨g7, rfl, hc7⟩
  · omega
  rcases hL6.2 with h0 | ⟨b6, o6, rfl, hc6'⟩
  · rw [h0] at hpos; simp at hpos
  have hplc := plc_at G hfit k hk
  have hs1 := hc7 k hk
  have hs2 := hc6' k G[k] (List.getElem?_eq_getElem hk)
  rw [hplc.1] at hs1
  obtain ⟨Fr, hFr⟩ : ∃ Fr, (flat (G.take k)).length + 4 = Fr := ⟨_, rfl⟩
  have hFrn : Fr + (G[k].n + 4) ≤ n := by
    rw [← HN.out, ← hFr]
    have e : flat G = flat (G.take (k + 1)) ++ flat (G.drop (k + 1)) := by rw [← flat_append, List.take_append_drop]
    rw [e, List.length_append, hplc.2]; omega
  have hsn := (hfit G[k] (List.getElem_mem hk)).2.1
  obtain ⟨nk, hnk⟩ : ∃ nk, G[k].n = nk := ⟨_, rfl⟩
  have HFr : Hid ((flat (G.take k)).length + 4 = Fr) := hFr
  have HNk : Hid (G[k].n = nk) := hnk
  have hs2' : w1.cell? ⟨b6, o6 + k, none⟩ = some (.slice G[k].a nk G[k].cap) := by rw [hs2, ← hnk]
  have hs1' : w1.cell? ⟨g7, k, none⟩ = some (.int .i64 (((Fr + (4 + nk) : Nat)) : Int)) := by
    rw [hs1, hplc.2, ← hFr, hnk]; congr 3; omega
  rw [hnk] at hFrn hsn
  clear hs1 hs2 hplc hFr hnk hc6' hc7
  obtain ⟨ak, hak⟩ : ∃ ak, G[k].a = ak := ⟨_, rfl⟩
  obtain ⟨ck, hck⟩ : ∃ ck, G[k].cap = ck := ⟨_, rfl⟩
  rw [hak, hck] at hs2'
  clear hak hck
  obtain ⟨pk, hpk⟩ : ∃ pk : Int, (((Fr + (4 + nk) : Nat)) : Int) = pk := ⟨_, rfl⟩
  rw [hpk] at hs1'
  have pk0 : pk = (Fr : Int) + (4 + nk) := by omega
  clear hpk
  have k0 : (0 : Int) ≤ k := by omega
  have k1 : (k : Int) < G.length := by omega
  have Fr1 : Fr ≤ 68719476736 := by omega
  go_wp2_with fail
  go_quiet (fail)
  have e1 : (Fr : Int) + (4 + nk) - nk - 4 = Fr := by omega
  rw [e1]
  clear e1
  have bq : Below w1.heap.size w1 (w1.drewN nq) := below_drewN (Below.refl _ w1) nq
  obtain ⟨w2, hw2⟩ : ∃ w2, w1.drewN nq = w2 := ⟨_, rfl⟩
  rw [hw2] at bq ⊢
  clear hw2
  have hY2 := HY.out.later bq
  have hc2 : w2.cell? ⟨g7, k, none⟩ = some (.int .i64 pk) := (bq.cell (p := ⟨g7, k, none⟩) (by have := World.block_lt_of_cell? w1 _ hs1'; simpa using this)).trans hs1'
  have HY2 : Hid (GathY wA w2 G g n cp (flat G) (Value.slice (some ⟨b6, o6, none⟩) G.length c6) (Value.slice (some ⟨g7, 0, none⟩) G.length c7)) := hY2
  clear hs1' hs2' HY hY2 bq hL6
  go_wp2_with fail
  have e2 : 8 * ((Fr : Int) + (4 + nk) - Fr) = ((8 * (4 + nk) : Nat) : Int) := by omega
  rw [e2]
  clear e2
  refine (round_any p (8 * (4 + nk)) _ (by omega) (by omega) hp0 hp1).mono ?_
  rintro e w3 ⟨f, hf, rfl, hw3⟩
  have hw3 := hw3.symm
  subst hw3
  have e3 : (Fr : Int) + (4 + nk) - Fr = ((4 + nk : Nat) : Int) := by omega
  rw [e3]
  clear e3
  obtain ⟨sz, hsz⟩ : ∃ sz, 4 + nk = sz := ⟨_, rfl⟩
  rw [hsz] at hf ⊢
  have hsz1 : sz ≤ 131076 := by omega
  have hFrn' : Fr + sz ≤ n := by omega
  obtain ⟨zs, hzs⟩ : ∃ zs, G[k].zs = zs := ⟨_, rfl⟩
  have hfk := hfit G[k] (List.getElem_mem hk)
  have hSp : flat G = (flat (G.take k) ++ four nk) ++ (four (sumOf zs) ++ zs) ++ flat (G.drop (k + 1)) := by
    have e0 : G = G.take k ++ (G[k] :: G.drop (k + 1)) := by rw [← List.drop_eq_getElem_cons hk, List.take_append_drop]
    have e1 : flat G = flat (G.take k ++ (G[k] :: G.drop (k + 1))) := by rw [← e0]
    rw [e1, flat_append]
    have e2 : flat (G[k] :: G.drop (k + 1)) = frame zs ++ flat (G.drop (k + 1)) := by rw [← hzs]; simp only [flat, List.flatMap_cons]
    have e3 : zs.length = nk := by rw [← hzs, hfk.1]; exact HNk.out
    rw [e2]
    unfold frame
    rw [e3]
    simp only [List.append_assoc]
  have hzo : Octets zs := by rw [← hzs]; exact hfk.2.2
  have hzl : zs.length = nk := by rw [← hzs, hfk.1]; exact HNk.out
  have hzb := sumOf_bd zs hzo (by omega)
  have HSp : Hid (flat G = (flat (G.take k) ++ four nk) ++ (four (sumOf zs) ++ zs) ++ flat (G.drop (k + 1))) := hSp
  have HAl : Hid ((flat (G.take k) ++ four nk).length = Fr) := by show _ = Fr; rw [List.length_append, four_length]; exact HFr.out
  have HFo : Hid (Octets (four (sumOf zs) ++ zs)) := (four_octets _ hzb.1 hzb.2).append hzo
  have HFl : Hid ((four (sumOf zs) ++ zs).length = sz) := by show _ = sz; rw [List.length_append, four_length, hzl]; omega
  obtain ⟨A, hA⟩ : ∃ A, flat (G.take k) ++ four nk = A := ⟨_, rfl⟩
  obtain ⟨C, hC⟩ : ∃ C, flat (G.drop (k + 1)) = C := ⟨_, rfl⟩
  obtain ⟨F, hF⟩ : ∃ F, four (sumOf zs) ++ zs = F := ⟨_, rfl⟩
  rw [hA] at HAl
  rw [hF] at HFo HFl
  have HS2 : Hid (flat G = A ++ F ++ C) := by show flat G = A ++ F ++ C; rw [HSp.out, hA, hF, hC]
  have HAd : Hid (flat (G.take k) ++ four nk = A ∧ four (sumOf zs) ++ zs = F ∧ flat (G.drop (k + 1)) = C ∧ Octets zs ∧ zs.length = nk ∧ 4 + nk = sz) := ⟨hA, hF, hC, hzo, hzl, hsz⟩
  clear hA hC hF hSp HSp hzb hzo hzl hfk hzs hsz hFrn pk0 hpos hne0
  go_wp2_with fail
  go_loopw [13, 14] (fun t u wr => ∃ (i : Nat) (tb : Bool) (M : List Int), i ≤ 32 ∧ (f < 32 → f + i ≤ 32) ∧ f + i ≤ 8 * sz ∧ t = .bool tb ∧ u = .int .i64 i ∧ Turns F M f i tb ∧ GathY wA wr G g n cp (A ++ M ++ C) (Value.slice (some ⟨b6, o6, none⟩) G.length c6) (Value.slice (some ⟨g7, 0, none⟩) G.length c7)) (fun _ u _ => 32 - (intOf u).toNat)
  case atStart => exact ⟨0, false, F, by omega, by omega, by omega, rfl, rfl, Turns.start F f HFo.out, by rw [← HS2.out]; exact HY2.out⟩
  case round =>
    obtain ⟨i, tb, M, hi, hfi, hfs, rfl, rfl, hTu, hYr⟩ := hrel
    by_cases hgo : i < 32 ∧ f + i < 8 * sz ∧ ¬ (f < 32 ∧ 32 ≤ f + i)
    · obtain ⟨hA1, hA2, hA3⟩ := hgo
      have hJ : (f + i) / 8 < sz := by omega
      obtain ⟨J, hJe⟩ : ∃ J, (f + i) / 8 = J := ⟨_, rfl⟩
      have hMl : M.length = sz := hTu.len.trans HFl.out
      obtain ⟨x, hx⟩ : ∃ x, M[J]? = some x := ⟨M[J]'(by omega), List.getElem?_eq_getElem _⟩
      have hxo : 0 ≤ x ∧ x ≤ 255 := by have := hTu.oct J; rwa [List.getD_eq_getElem?_getD, hx] at this
      have hcell : wr.cell? ⟨g, Fr + J, none⟩ = some (.int .u8 x) := by
        rw [hYr.b.cellAt (Fr + J) (by omega), ← HAl.out]
        exact vals_get' (mid_get A M C J x hx)
      have hfro : wr.frozen? ⟨g, Fr + J, none⟩ = false := hYr.b.frozenAt (Fr + J)
      have hMS : Hid (GathY wA wr G g n cp (A ++ M ++ C) (Value.slice (some ⟨b6, o6, none⟩) G.length c6) (Value.slice (some ⟨g7, 0, none⟩) G.length c7)) := hYr
      have hTS : Hid (Turns F M f i tb) := hTu
      clear hYr hTu
      have j0 : ((f : Int) + i) / 8 = J := by omega
      obtain ⟨y, hy, hyn, hy0, hy1⟩ : ∃ y, bits BinOp.xor IntKind.u8 x (2 ^ ((f + i) % 8) % 256) = y ∧ y.toNat = x.toNat ^^^ 2 ^ ((f + i) % 8) ∧ 0 ≤ y ∧ y ≤ 255 := ⟨_, rfl, turn_xor x ((f + i) % 8) hxo.1 hxo.2 (by omega)⟩
      have HT2 : Hid (Turns F (M.set J y) f (i + 1) true) := by
        have := hTS.out.turn x y (by rw [hJe]; exact hx) hyn hy0 hy1
        rw [hJe] at this; exact this
      have HY3 : Hid (GathY wA (wr.setCell ⟨g, Fr + J, none⟩ (.int .u8 y)) G g n cp (A ++ M.set J y ++ C) (Value.slice (some ⟨b6, o6, none⟩) G.length c6) (Value.slice (some ⟨g7, 0, none⟩) G.length c7)) := by
        have h1 := hMS.out.stored (Fr + J) y
        rw [← HAl.out, mid_set A M C J y (by omega), HAl.out] at h1
        exact h1
      have HXY : Hid (bits BinOp.xor IntKind.u8 x (2 ^ ((f + i) % 8) % 256) = y) := hy
      clear hyn hy0 hy1 hy hx hMl
      go_wp2_with fail
      all_goals first
        | exact ⟨⟨i + 1, tb, M, by omega, by omega, by omega, rfl, by go_num, hTS.out.pass, hMS.out⟩, by simp [intOf]; omega⟩
        | (rw [HXY.out]; exact ⟨⟨i + 1, true, M.set J y, by omega, by omega, by omega, rfl, by go_num, HT2.out, HY3.out⟩, by simp [intOf]; omega⟩)
    · have hst : ¬ i < 32 ∨ (i < 32 ∧ ¬ f + i < 8 * sz) ∨ (i < 32 ∧ f + i < 8 * sz ∧ f < 32 ∧ 32 ≤ f + i) := by omega
      have B0 : Below w.heap.size w wr := hbA.trans (hYr.below.mono hbA.size)
      have TW : Tab wr := hT.below B0 hT.pos
      obtain ⟨dA, dF, dC, hzo, hzl, hsz⟩ := HAd.out
      have hOC : Octets C := by rw [← dC]; exact flat_octets _ (fun s h => hfit s (List.mem_of_mem_drop h))
      have hOA : Octets A := by rw [← dA]; exact (flat_octets _ (fun s h => hfit s (List.mem_of_mem_take h))).append (four_octets nk (by omega) (by omega))
      obtain ⟨a', c', hv', hBs⟩ := own_bs hYr.b ((hOA.append hTu.oct).append hOC) (by omega)
      cases hv'
      obtain ⟨a'', c'', hv'', hLr, hcr, _⟩ := own_ll hYr.good (fun s h => (hGB s h).below hYr.below)
      cases hv''
      obtain ⟨a3, c3, hv3, hIr⟩ := own_ints hYr.places
      cases hv3
      have hKc : 0 < k → wr.cell? ⟨g7, k - 1, none⟩ = some (.int .i64 ((flat (G.take k)).length : Int)) := fun h0 => by
        rcases hIr with h | ⟨g', hg', hcc⟩
        · omega
        · cases hg'
          rw [hcc (k - 1) (by omega), (plc_at G hfit (k - 1) (by omega)).1, show k - 1 + 1 = k by omega]
      have hK0 : k = 0 → (flat (G.take k)).length = 0 := fun h => by rw [h]; simp [flat]
      have hLt : LL wr (some ⟨b6, o6, none⟩) (G.take k) := hLr.front k
      have hkc : (k : Int) ≤ c6 := by omega
      clear hIr hLr hOA
      cases tb with
      | false =>
        rcases hst with hst | ⟨hst, hst'⟩ | ⟨hst, hst', hst'', hst3⟩
        all_goals
          go_wp2
          go_ret
          exact ⟨rfl, B0⟩
      | true =>
        have hti : ∀ N, ¬ IsRec (four nk ++ M ++ C) N := by
          have := Turns.torn (zs := zs) (M := M) (first := f) (i := i) hzo (by omega) (by rw [dF]; exact hTu) hi hfi C hOC
          rwa [hzl] at this
        have hsp : A ++ M ++ C = flat (G.take k) ++ (four nk ++ M ++ C) := by rw [← dA]; simp only [List.append_assoc]
        have Hti : Hid (∀ N, ¬ IsRec (four nk ++ M ++ C) N) := hti
        have Hsp : Hid (A ++ M ++ C = flat (G.take k) ++ (four nk ++ M ++ C)) := hsp
        clear hti hsp hYr hTu dA dF dC hzo hzl hsz hOC
        rcases hst with hst | ⟨hst, hst'⟩ | ⟨hst, hst', hst'', hst3⟩
        all_goals
          go_wp2_with fail
          refine (lent_rel wr _ (some ⟨g, 0, none⟩) n cp (A ++ M ++ C) (Below.refl _ _) hBs (by omega)).mono ?_
          rintro e w4 ⟨g4, cp4, rfl, hB4, hb4⟩
          go_wp2_with fail
          refine (scan_frames (some ⟨g4, 0, none⟩) n cp4 (A ++ M ++ C) (four nk ++ M ++ C) (G.take k) _ hB4.len hB4.has hB4.oct (TW.below hb4 TW.pos) (by omega) (fun s h => hfit s (List.mem_of_mem_take h)) Hsp.out Hti.out).mono ?_
          rintro e w5 ⟨a5, c5, s5, rfl, hL5, hl5, hz5, hb5⟩
          have B5 : Below wr.heap.size wr w5 := hb4.trans (hb5.mono hb4.size)
          have hl5' : s5.length = k := by rw [hl5, List.length_take]; omega
          rw [List.length_take, Nat.min_eq_left (by omega)]
          have L5 : LL w5 (some ⟨b6, o6, none⟩) (G.take k) := hLt.below B5
          have HL5 : Hid (s5.length = k) := hl5'
          have HZ5 : Hid (s5.map (·.zs) = (G.take k).map (·.zs)) := hz5
          have HB5 : Hid (Below w.heap.size w w5) := B0.trans (B5.mono B0.size)
          clear hl5 hl5' hz5 hb5 hb4 hB4
          rcases Nat.eq_zero_or_pos k with hk0 | hkp
          · have hkn : ¬ (0 : Int) < k := by omega
            rw [hK0 hk0]
            clear hK0 hk0 hKc
            go_wp2_with fail
            refine (lists_any a5 (some ⟨b6, o6, none⟩) k c5 c6 s5 (G.take k) _ HL5.out (by omega) hL5 L5 HZ5.out).mono ?_
            rintro e w6 ⟨rfl, hb6⟩
            have B6 : Below w.heap.size w w6 := HB5.out.trans (hb6.mono HB5.out.size)
            clear hb6 L5 hL5
            go_wp2
            go_ret
            exact ⟨rfl, B6⟩
          · have hkn : (0 : Int) < k := by omega
            have hcc := (B5.cell (p := ⟨g7, k - 1, none⟩) (by have := World.block_lt_of_cell? wr _ (hKc hkp); simpa using this)).trans (hKc hkp)
            obtain ⟨L, hLe⟩ : ∃ L, (flat (G.take k)).length = L := ⟨_, rfl⟩
            rw [hLe] at hcc ⊢
            clear hLe hKc hK0
            go_wp2_with fail
            refine (lists_any a5 (some ⟨b6, o6, none⟩) k c5 c6 s5 (G.take k) _ HL5.out (by omega) hL5 L5 HZ5.out).mono ?_
            rintro e w6 ⟨rfl, hb6⟩
            have B6 : Below w.heap.size w w6 := HB5.out.trans (hb6.mono HB5.out.size)
            clear hb6 L5 hL5
            go_wp2
            go_ret
            exact ⟨rfl, B6⟩
end Go.Proofs.YtcjefhgnmpomjaaDoor
