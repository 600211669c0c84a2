/- A source of words in memory; Push, Clone, rest. -/
import Derived.Test.YtfolfeaednmcoaaPick
import Derived.Maps.AppendAt
namespace Go.Proofs.Ytfolfeaednmcoaa
open Go.RowKit
set_option linter.unusedVariables false
set_option linter.unusedSimpArgs false
theorem Try.info22 : (Try.prog.info? 22).map (fun i => (i.zero, i.size, i.bytes)) = some (some (.int .u64 0), 1, 8) := by kernel_rfl
def uvals (L : List Int) : List Value := L.map (Value.int .u64)
theorem uvals_length (L : List Int) : (uvals L).length = L.length := by simp [uvals]
theorem uvals_get (L : List Int) (j : Nat) (h : j < L.length) : (uvals L)[j]? = some (.int .u64 (L.getD j 0)) := by simp [uvals, h]
theorem uvals_one (L : List Int) : ∀ u ∈ uvals L, u.oneCell' = true := by
  intro u hu
  obtain ⟨z, _, rfl⟩ := List.mem_map.1 hu
  rfl
theorem uvals_append (a b : List Int) : uvals (a ++ b) = uvals a ++ uvals b := by simp [uvals]
theorem uvals_at (zs : List Int) (j : Nat) (u : Value) (h : (uvals zs)[j]? = some u) : j < zs.length ∧ u = .int .u64 (zs.getD j 0) := by
  have hj : j < zs.length := by have := (List.getElem?_eq_some_iff.1 h).1; simpa [uvals_length] using this
  rw [uvals_get zs j hj] at h
  exact ⟨hj, by injection h with h; exact h.symm⟩
theorem own_shape {w : World} {base : Nat} {e : TypeId} {size n : Nat} {v : Value} {xs : List Value} (h : w.ownsRow base e size v n xs) : ∃ a c, v = .slice a n c := by
  rcases h.2 with ⟨rfl, h0⟩ | ⟨g, cp, cur, rfl, _⟩
  · exact ⟨none, 0, by rw [h0]⟩
  · exact ⟨_, _, rfl⟩
theorem own_ul {w : World} {base n c : Nat} {a : Option Addr} {zs : List Int} (h : w.ownsRow base 22 1 (.slice a n c) n (uvals zs)) : zs.length = n := by have := h.1; simpa [uvals_length] using this
/-- words behind a slice -/
def Ul (w : World) (a : Option Addr) (zs : List Int) : Prop := zs = [] ∨ ∃ b o, a = some ⟨b, o, none⟩ ∧ ∀ j, j < zs.length → w.cell? ⟨b, o + j, none⟩ = some (.int .u64 (zs.getD j 0))
theorem own_at {w : World} {base n c : Nat} {a : Option Addr} {zs : List Int} (h : w.ownsRow base 22 1 (.slice a n c) n (uvals zs)) (j : Nat) (hj : j < n) : ∃ g, a = some ⟨g, 0, none⟩ ∧ w.cell? ⟨g, j, none⟩ = some (.int .u64 (zs.getD j 0)) := by
  have hl := own_ul h
  rcases h.2 with ⟨_, h0⟩ | ⟨g, cp, cur, h1, _⟩
  · omega
  · injection h1 with h4 h5 h6
    subst h4
    refine ⟨g, rfl, ?_⟩
    have := h.cells rfl j _ (uvals_get zs j (by omega))
    rw [Go.WideShapes.add_plain, Nat.zero_add] at this
    exact this
theorem own_Ul {w : World} {base n c : Nat} {a : Option Addr} {zs : List Int} (h : w.ownsRow base 22 1 (.slice a n c) n (uvals zs)) : Ul w a zs := by
  by_cases h0 : zs = []
  · exact .inl h0
  · have hl := own_ul h
    have hp : 0 < zs.length := List.length_pos_iff.2 h0
    obtain ⟨g, ha, _⟩ := own_at h 0 (by omega)
    refine .inr ⟨g, 0, ha, fun j hj => ?_⟩
    obtain ⟨g', ha', hc⟩ := own_at h j (by omega)
    rw [ha] at ha'
    cases ha'
    rw [Nat.zero_add]; exact hc
theorem ul_news {w : World} {ad : Addr} {zs : List Int} (h : Ul w (some ad) zs) : ∀ j u, (uvals zs)[j]? = some u → w.cell? (ad.add j) = some u := fun j u hj => by
  obtain ⟨hjl, rfl⟩ := uvals_at zs j u hj
  rcases h with rfl | ⟨b, o, e, hc⟩
  · simp at hjl
  · cases e
    rw [Go.WideShapes.add_plain]; exact hc j hjl
theorem Ul.below {w w' : World} {a : Option Addr} {zs : List Int} (h : Ul w a zs) (hb : Below w.heap.size w w') : Ul w' a zs := by
  rcases h with h | ⟨b, o, e, hc⟩
  · exact .inl h
  · exact .inr ⟨b, o, e, fun j hj => cell_of_below hb (hc j hj)⟩
/-- But for these blocks, and new ones, all is as it was. -/
structure Stp (w w' : World) (bs bs' : List Nat) : Prop where
  os : w'.os = w.os
  tape : w'.tape = w.tape
  output : w'.output = w.output
  size : w.heap.size ≤ w'.heap.size
  old : ∀ k, k < w.heap.size → k ∉ bs → w'.heap[k]? = w.heap[k]?
  new : ∀ k ∈ bs', k ∈ bs ∨ w.heap.size ≤ k
theorem Stp.trans {w w1 w2 : World} {b b1 b2 : List Nat} (h : Stp w w1 b b1) (g : Stp w1 w2 b1 b2) : Stp w w2 b b2 :=
  ⟨g.os.trans h.os, g.tape.trans h.tape, g.output.trans h.output, Nat.le_trans h.size g.size, fun k hk hn => (g.old k (Nat.lt_of_lt_of_le hk h.size) (fun h1 => (h.new k h1).elim hn (fun h2 => by omega))).trans (h.old k hk hn), fun k hk => (g.new k hk).elim (h.new k) (fun h1 => .inr (Nat.le_trans h.size h1))⟩
theorem Stp.below {w w' : World} {bs bs' : List Nat} {base : Nat} (h : Stp w w' bs bs') (hb : ∀ k ∈ bs, base ≤ k) (hs : base ≤ w.heap.size) : Below base w w' :=
  ⟨h.os, h.tape, h.output, h.size, fun k hk => h.old k (by omega) (fun h1 => by have := hb k h1; omega)⟩
theorem Stp.of_below {w w' : World} (bs : List Nat) (h : Below w.heap.size w w') : Stp w w' bs bs := ⟨h.os, h.tape, h.output, h.size, fun k hk _ => h.block k hk, fun k hk => .inl hk⟩
theorem Stp.set {w : World} {bs : List Nat} (b o : Nat) (v : Value) (hb : b ∈ bs) : Stp w (w.setCell ⟨b, o, none⟩ v) bs bs :=
  ⟨rfl, rfl, rfl, by simp [World.setCell], fun k _ hn => Below.heap_setCell _ _ _ _ (fun e => hn (e ▸ hb)), fun k hk => .inl hk⟩
/-- draw's source -/
def DS (w : World) (base b : Nat) (rest : List Int) (st : Int) (bs : List Nat) : Prop := ∃ (a : Option Addr) (n c t : Nat) (ws : List Int), w.heap[b]? = some (.cells #[.slice a n c, .int .i64 t, .int .u64 st] 68 (0, 0)) ∧ w.ownsRow base 22 1 (.slice a n c) n (uvals ws) ∧ t ≤ rest.length ∧ t + rest.length = n ∧ rest = ws.drop t ∧ base ≤ b ∧ bs = b :: (Value.slice a n c).ownBlock.toList
theorem lt_of_block {w : World} {k : Nat} {o : Obj} (h : w.heap[k]? = some o) : k < w.heap.size := (Array.getElem?_eq_some_iff.1 h).1
theorem DS.lt {w : World} {base b : Nat} {rest : List Int} {st : Int} {bs : List Nat} (h : DS w base b rest st bs) : ∀ k ∈ bs, base ≤ k ∧ k < w.heap.size := by
  obtain ⟨a, n, c, t, ws, h1, h2, h3, h4, h5, h6, rfl⟩ := h
  intro k hk
  rcases List.mem_cons.1 hk with rfl | hk
  · exact ⟨h6, lt_of_block h1⟩
  · exact h2.lt k (by simpa using hk)
theorem DS.keep {w w' : World} {base b : Nat} {rest : List Int} {st : Int} {bs : List Nat} (h : DS w base b rest st bs) (hk : ∀ k ∈ bs, w'.heap[k]? = w.heap[k]?) : DS w' base b rest st bs := by
  obtain ⟨a, n, c, t, ws, h1, h2, h3, h4, h5, h6, rfl⟩ := h
  exact ⟨a, n, c, t, ws, (hk b (by simp)).trans h1, own_block h2 (fun k e => hk k (by simp [e])), h3, h4, h5, h6, rfl⟩
/-- the document's source -/
def RS (w : World) (base b : Nat) (rest : List Int) (st : Int) (bs : List Nat) : Prop := ∃ (a : Option Addr) (c : Nat), w.heap[b]? = some (.cells #[.slice a rest.length c, .int .u64 st] 50 (0, 0)) ∧ w.ownsRow base 22 1 (.slice a rest.length c) rest.length (uvals rest) ∧ base ≤ b ∧ bs = b :: (Value.slice a rest.length c).ownBlock.toList
theorem RS.lt {w : World} {base b : Nat} {rest : List Int} {st : Int} {bs : List Nat} (h : RS w base b rest st bs) : ∀ k ∈ bs, base ≤ k ∧ k < w.heap.size := by
  obtain ⟨a, c, h1, h2, h6, rfl⟩ := h
  intro k hk
  rcases List.mem_cons.1 hk with rfl | hk
  · exact ⟨h6, lt_of_block h1⟩
  · exact h2.lt k (by simpa using hk)
theorem RS.keep {w w' : World} {base b : Nat} {rest : List Int} {st : Int} {bs : List Nat} (h : RS w base b rest st bs) (hk : ∀ k ∈ bs, w'.heap[k]? = w.heap[k]?) : RS w' base b rest st bs := by
  obtain ⟨a, c, h1, h2, h6, rfl⟩ := h
  exact ⟨a, c, (hk b (by simp)).trans h1, own_block h2 (fun k e => hk k (by simp [e])), h6, rfl⟩
/-- a row grown, beside a block of another type -/
theorem grown_mid {w w' : World} {base b n n' : Nat} {v v' : Value} {xs ys : List Value} {cs : Array Value} {t : TypeId} (ht : t ≠ 22) (hrow : w.ownsRow base 22 1 v n xs) (hb : w.heap[b]? = some (.cells cs t (0, 0))) (hown : w'.ownsRow base 22 1 v' n' ys) (hg : w.grownBy w' v.ownBlock) (hat : v'.ownBlock = v.ownBlock ∨ v'.ownBlock = some w.heap.size) :
    ∃ a' c', v' = .slice a' n' c' ∧ Hid (w'.ownsRow base 22 1 (.slice a' n' c') n' ys) ∧ Hid (w'.heap[b]? = some (.cells cs t (0, 0))) ∧ Hid (Stp w w' (b :: v.ownBlock.toList) (b :: (Value.slice a' n' c').ownBlock.toList)) ∧ (∀ o u, cs[o]? = some u → w'.cell? ⟨b, o, none⟩ = some u) ∧ (∀ o, w'.frozen? ⟨b, o, none⟩ = false) := by
  obtain ⟨a', c', rfl⟩ := own_shape hown
  have hb' : w'.heap[b]? = some (.cells cs t (0, 0)) := (hg.block b (lt_of_block hb) (row_type hrow hb ht)).trans hb
  refine ⟨a', c', rfl, hown, hb', ⟨hg.os, hg.tape, hg.output, hg.size, fun k hk hn => hg.block k hk (fun e => hn (by simp [← e])), fun k hk => ?_⟩, fun o u hu => by simpa [World.cell?, hb'] using hu, fun o => by simp [World.frozen?, hb']⟩
  rcases List.mem_cons.1 hk with rfl | hk
  · exact .inl (by simp)
  · have hk' : (Value.slice a' n' c').ownBlock = some k := by simpa using hk
    rcases hat with h | h
    · rw [h] at hk'; exact .inl (by simp [hk'])
    · rw [h] at hk'; injection hk' with hk'; exact .inr (by omega)
theorem own_off {w : World} {base b o : Nat} {v u : Value} {n : Nat} {xs : List Value} {cs : Array Value} {t : TypeId} (ht : t ≠ 22) (h : w.ownsRow base 22 1 v n xs) (hb : w.heap[b]? = some (.cells cs t (0, 0))) : (w.setCell ⟨b, o, none⟩ u).ownsRow base 22 1 v n xs :=
  own_block h (fun k hk => Below.heap_setCell _ _ _ _ (fun e => by subst e; exact row_type h hb ht hk.symm))
theorem push_any (b base : Nat) (ad : Addr) (gc : Nat) (gs rest : List Int) (st : Int) (bs : List Nat) (w : World) (hD : DS w base b rest st bs) (hU : Ul w (some ad) gs) (hbase : base ≤ w.heap.size) (hn : rest.length ≤ 1048576) (hg : gs.length ≤ 1048576) :
    Calls Try.prog 24 #[.pointer (some ⟨b, 0, none⟩), .slice (some ad) gs.length gc] w fun e w' => e = .returned (.tuple #[]) ∧ ∃ bs', DS w' base b (rest ++ gs) st bs' ∧ Stp w w' bs bs' := by
  obtain ⟨a, n, c, t, ws, h1, h2, h3, h4, h5, h6, rfl⟩ := hD
  obtain ⟨i0, hi, hz0, hz1, hz2⟩ := info_parts Try.info22
  have c0 : w.cell? ⟨b, 0, none⟩ = some (.slice a n c) := by simp [World.cell?, h1]
  have hnb : n ≤ 2097152 := by omega
  have H1 : Hid (w.heap[b]? = some (.cells #[.slice a n c, .int .i64 t, .int .u64 st] 68 (0, 0))) := h1
  have H2 : Hid (w.ownsRow base 22 1 (.slice a n c) n (uvals ws)) := h2
  have HU : Hid (Ul w (some ad) gs) := hU
  have HW : Hid (t ≤ rest.length ∧ t + rest.length = n ∧ rest = ws.drop t ∧ base ≤ b ∧ base ≤ w.heap.size) := ⟨h3, h4, h5, h6, hbase⟩
  obtain ⟨m, hm⟩ : ∃ m, gs.length = m := ⟨_, rfl⟩
  have HM : Hid (gs.length = m) := hm
  rw [hm] at hg ⊢
  clear h1 h2 h3 h4 h5 h6 hU hbase hm
  go_enter Try.func24, Try.ntmps24
  go_wp2_with (at_builtin; refine wpList_append_own_at _ rfl (.tmp 10) (.tmp 11) 48 rfl base 22 i0 (.int .u64 0) 1 8 Try.underlying48 hi hz0 hz1 hz2 rfl (by decide) (.slice a n c) n (uvals ws) rfl H2.out ad m gc (uvals gs) rfl (by rw [uvals_length, HM.out, Nat.mul_one]) (ul_news HU.out) (uvals_one _) (by unfold maxLen; omega) (by omega) HW.out.2.2.2.2 ?_; intro v' w' hown hgrow _ hat; obtain ⟨a', c', hv, HR, HB, HS, hc, hz⟩ := grown_mid (t := 68) (by decide) H2.out H1.out hown hgrow hat; subst hv; have c1 := hc 0 _ rfl; have z1 := hz 0; clear hown hgrow hat hc hz)
  go_end0
  obtain ⟨w1, w2, w3, w4, w5⟩ := HW.out
  have hwl := own_ul H2.out
  have hgl := HM.out
  refine ⟨rfl, _, ⟨a', n + m, c', t, ws ++ gs, ?_, ?_, by simp; omega, by simp; omega, ?_, w4, rfl⟩, HS.out.trans (Stp.set b 0 _ (by simp))⟩
  · rw [block_setCell HB.out]; rfl
  · have := own_off (o := 0) (u := .slice a' (n + m) c') (t := 68) (by decide) HR.out HB.out
    rw [uvals_append]; exact this
  · rw [w3, List.drop_append_of_le_length (by omega)]
theorem slice_nil (w : World) (a : Option Addr) (l c : Nat) : (binOp .eql 48 (.slice a l c) (.slice none 0 0)).run Try.prog w = .ok (.bool a.isNone) w := Lib.run_eql_slice_nil w 48 22 a l c 0 0 Try.underlying48
theorem clone_nil (w : World) : Calls Try.prog 37 #[.slice none 0 0] w fun e w' => e = .returned (.slice none 0 0) ∧ w' = w := by
  have kc : (binOp .eql 48 (.slice none 0 0) (.slice none 0 0)).run Try.prog w = .ok (.bool true) w := slice_nil w none 0 0
  go_enter Try.func37, Try.ntmps37
  go_wp2_with fail
  go_ret
  exact ⟨rfl, rfl⟩
theorem own_empty (w : World) : (w.alloc (.cells #[] 22 (0, 0))).ownsRow w.heap.size 22 1 (.slice (some ⟨w.heap.size, 0, none⟩) 0 0) 0 [] :=
  ⟨rfl, .inr ⟨w.heap.size, 0, #[], rfl, Nat.le_refl _, Go.heap_alloc_new w _, Nat.le_refl _, by decide, rfl, rfl⟩⟩
theorem empty_grown {w w1 : World} {n : Nat} {v : Value} {zs : List Int} (hown : w1.ownsRow w.heap.size 22 1 v (0 + n) ([] ++ uvals zs)) (hg : (w.alloc (.cells #[] 22 (0, 0))).grownBy w1 (Value.slice (some ⟨w.heap.size, 0, none⟩) 0 0).ownBlock) :
    ∃ a' c', v = .slice a' n c' ∧ Hid (w1.ownsRow w.heap.size 22 1 (.slice a' n c') n (uvals zs)) ∧ Hid (Below w.heap.size w w1) := by
  rw [Nat.zero_add, List.nil_append] at hown
  obtain ⟨a', c', rfl⟩ := own_shape hown
  exact ⟨a', c', rfl, hown, ((Below.refl w.heap.size w).alloc (Nat.le_refl _) _).grown hg (by simp) (fun k h => by cases h; exact Nat.le_refl _)⟩
theorem clone_some (ad : Addr) (n c : Nat) (zs : List Int) (w : World) (hn : zs.length = n) (hl : n ≤ 2097152) (hU : Ul w (some ad) zs) : Calls Try.prog 37 #[.slice (some ad) n c] w fun e w' => ∃ a' c', e = .returned (.slice a' n c') ∧ w'.ownsRow w.heap.size 22 1 (.slice a' n c') n (uvals zs) ∧ Below w.heap.size w w' := by
  have kc : (binOp .eql 48 (.slice (some ad) n c) (.slice none 0 0)).run Try.prog w = .ok (.bool false) w := slice_nil w (some ad) n c
  obtain ⟨i0, hi, hz0, hz1, hz2⟩ := info_parts Try.info22
  have HU : Hid (∀ j u, (uvals zs)[j]? = some u → (w.alloc (.cells #[] 22 (0, 0))).cell? (ad.add j) = some u) := ul_news (hU.below ((Below.refl _ _).alloc (Nat.le_refl _) _))
  have HN : Hid (zs.length = n) := hn
  clear hn hU
  go_enter Try.func37, Try.ntmps37
  go_wp2_with (at_builtin; refine wpList_append_own _ rfl (.tmp 5) (.tmp 6) 48 rfl w.heap.size 22 i0 (.int .u64 0) 1 8 Try.underlying48 hi hz0 hz1 hz2 rfl (by decide) _ 0 [] rfl (own_empty w) ad n c (uvals zs) rfl (by rw [uvals_length, HN.out, Nat.mul_one]) HU.out (uvals_one _) (by unfold maxLen; omega) (by omega) (by simp) ?_; intro v w1 hown hgrow _; obtain ⟨a', c', hv, HR, HB⟩ := empty_grown hown hgrow; subst hv; clear hown hgrow)
  go_ret
  exact ⟨a', c', rfl, HR.out, HB.out⟩
/-- the words that are not taken -/
theorem rest_any (b : Nat) (a : Option Addr) (n c t : Nat) (st : Int) (ws : List Int) (base : Nat) (w : World) (hb : w.heap[b]? = some (.cells #[.slice a n c, .int .i64 t, .int .u64 st] 68 (0, 0))) (hrow : w.ownsRow base 22 1 (.slice a n c) n (uvals ws)) (ht : t ≤ n) (hn : n ≤ 2097152) :
    Calls Try.prog 35 #[.pointer (some ⟨b, 0, none⟩)] w fun e w' => ∃ a' c', e = .returned (.slice a' (n - t) c') ∧ w'.ownsRow w.heap.size 22 1 (.slice a' (n - t) c') (n - t) (uvals (ws.drop t)) ∧ Below w.heap.size w w' := by
  have c0 : w.cell? ⟨b, 0, none⟩ = some (.slice a n c) := by simp [World.cell?, hb]
  have c1 : w.cell? ⟨b, 1, none⟩ = some (.int .i64 t) := by simp [World.cell?, hb]
  have t0 : (0 : Int) ≤ t := by omega
  have t1 : (t : Int) ≤ n := by omega
  have hwl := own_ul hrow
  have hB : Below w.heap.size w w.drew := (Below.refl _ _).drew
  cases a with
  | none =>
    have hn0 : n = 0 ∧ c = 0 := by
      rcases hrow.2 with ⟨h, _⟩ | ⟨g, cp, cur, h, _⟩
      · injection h with _ h1 h2; exact ⟨h1, h2⟩
      · cases h
    obtain ⟨rfl, rfl⟩ := hn0
    obtain rfl : t = 0 := by omega
    have hw0 : ws = [] := List.length_eq_zero_iff.1 hwl
    subst hw0
    clear hrow hwl hb
    go_enter Try.func35, Try.ntmps35
    go_wp2_with fail
    go_region_held3 (fun w' => w'.cell? ⟨b, 0, none⟩ = some (.slice none 0 0) ∧ w'.cell? ⟨b, 1, none⟩ = some (.int .i64 ((0 : Nat) : Int))) (go_keep) (first | (go_at_call 37; refine (clone_nil _).mono ?_; rintro e w' ⟨rfl, rfl⟩))
    go_wp2
    go_ret
    exact ⟨none, 0, rfl, World.ownsRow_nil _ _ _ _, hB⟩
  | some x =>
    obtain ⟨g, rfl⟩ : ∃ g, x = ⟨g, 0, none⟩ := by
      rcases hrow.2 with ⟨h, _⟩ | ⟨g, cp, cur, h, _⟩
      · cases h
      · injection h with h1; injection h1 with h1; exact ⟨g, h1⟩
    obtain ⟨hnc, hcm⟩ := own_cap hrow
    unfold maxLen at hcm
    have c2 : (t : Int) ≤ c := by omega
    have HU : Hid (∀ o, Ul w (some ⟨g, t + o, none⟩) (ws.drop (t + o))) := fun o => by
      by_cases h0 : ws.drop (t + o) = []
      · exact .inl h0
      · refine .inr ⟨g, t + o, rfl, fun j hj => ?_⟩
        have hj' : j < ws.length - (t + o) := by simpa using hj
        obtain ⟨g', e, hc⟩ := own_at hrow (t + o + j) (by omega)
        cases e
        rw [hc]
        simp [List.getD]
    by_cases hct : c = t
    · have HC : Hid (Calls Try.prog 37 #[.slice (some ⟨g, 0, none⟩) 0 0] w.drew fun e w' => ∃ a1 c1, e = .returned (.slice a1 0 c1) ∧ w'.ownsRow w.heap.size 22 1 (.slice a1 0 c1) 0 (uvals []) ∧ Below w.heap.size w w') :=
        (clone_some ⟨g, 0, none⟩ 0 0 [] w.drew rfl (by decide) (.inl rfl)).mono fun e w' ⟨a1, c1, he, hr, hb⟩ => ⟨a1, c1, he, hr, hB.trans hb⟩
      have e : ws.drop t = [] := List.length_eq_zero_iff.1 (by rw [List.length_drop]; omega)
      have hnt : n = t := by omega
      have HE : Hid (n - t = 0 ∧ ws.drop t = []) := ⟨by omega, e⟩
      subst hct
      subst hnt
      clear hrow hb HU e
      go_enter Try.func35, Try.ntmps35
      go_wp2_with fail
      go_region_held3 (fun w' => w'.cell? ⟨b, 0, none⟩ = some (.slice (some ⟨g, 0, none⟩) n n) ∧ w'.cell? ⟨b, 1, none⟩ = some (.int .i64 n)) (go_keep) (first | (go_at_call 37; refine HC.out.mono ?_; rintro e w' ⟨a1, d1, rfl, hr1, hb1⟩; have x0 := cell_of_below hb1 c0; have x1 := cell_of_below hb1 c1))
      go_wp2
      go_ret
      refine ⟨a1, d1, ?_, ?_, hb1⟩
      · rw [HE.out.1]; rfl
      · rw [HE.out.1, HE.out.2]; exact hr1
    · have HC : Hid (Calls Try.prog 37 #[.slice (some ⟨g, t, none⟩) (n - t) (c - t)] w.drew fun e w' => ∃ a1 c1, e = .returned (.slice a1 (n - t) c1) ∧ w'.ownsRow w.heap.size 22 1 (.slice a1 (n - t) c1) (n - t) (uvals (ws.drop t)) ∧ Below w.heap.size w w') :=
        (clone_some ⟨g, t, none⟩ (n - t) (c - t) (ws.drop t) w.drew (by rw [List.length_drop]; omega) (by omega) ((HU.out 0).below hB)).mono fun e w' ⟨a1, c1, he, hr, hb⟩ => ⟨a1, c1, he, hr, hB.trans hb⟩
      clear hrow hb HU
      go_enter Try.func35, Try.ntmps35
      go_wp2_with fail
      go_region_held3 (fun w' => w'.cell? ⟨b, 0, none⟩ = some (.slice (some ⟨g, 0, none⟩) n c) ∧ w'.cell? ⟨b, 1, none⟩ = some (.int .i64 t)) (go_keep) (first | (go_at_call 37; refine HC.out.mono ?_; rintro e w' ⟨a1, d1, rfl, hr1, hb1⟩; have x0 := cell_of_below hb1 c0; have x1 := cell_of_below hb1 c1))
      go_wp2
      go_ret
      exact ⟨a1, d1, rfl, hr1, hb1⟩
end Go.Proofs.Ytfolfeaednmcoaa
