import Derived.Test.YtkmohpdcchpndaaBndD
import Derived.Laws.IdiomStrings
import Derived.Lib.SlBytesConst
import Derived.Deep.OwnRows
import Derived.Test.YtkmohpdcchpndaaChg
/-
  awake: a file that lasts, and a write of which one byte of two is kept.
-/
namespace Go.Proofs.Ytkmohpdcchpndaa
open Go.RowKit Go.Maps
set_option linter.unusedVariables false
set_option linter.unusedSimpArgs false
set_option maxRecDepth 100000
def bstr (zs : List Int) : ByteArray := zs.foldl (fun r n => r.push (UInt8.ofNat n.toNat)) ByteArray.empty
theorem str_of (w : World) (a : Option Addr) (n cap : Nat) (zs : List Int) (hn : zs.length = n) (hB : Has w a zs) : (convert 32 9 (.slice a n cap)).run Try.prog w = .ok (.string (bstr zs)) w := by
  rw [run_convert_bytes_string w 32 9 5 a n cap Try.underlying32 Try.underlying5 Try.underlying9]
  subst hn
  rcases hB with ⟨rfl, rfl⟩ | ⟨x, rfl, hB⟩
  · simp [Conv.bytesToString, bstr]
  · have hl := run_loadCells_list (P := Try.prog) w x (zs.map (Value.int .u8)) (fun j v hj => by
      obtain ⟨hj', rfl⟩ := vals_at zs j v hj
      exact hB j hj')
    simp only [List.length_map] at hl
    exact run_bytesToString w x zs.length cap zs hl
theorem nm_a : nmOk ⟨#[97]⟩ := ⟨by decide, by decide, fun i hi => by
  have : i = 0 := by have : i < 1 := hi; omega
  subst this
  exact ⟨by decide, by decide, by decide⟩⟩
theorem nm_ab : ¬ nmOk ⟨#[97, 47, 98]⟩ := fun h => by
  have := (h.2.2 1 (by decide)).2.2
  exact this (by decide)
theorem chs3 {w : World} {own : Nat → Prop} (hlt : ∀ k, own k → k < w.heap.size) (a b c : Int) (hr : ∀ z ∈ [a, b, c], -9223372036854775808 ≤ z ∧ z ≤ 9223372036854775807) : Chs (w.alloc (.cells #[.int .i64 a, .int .i64 b, .int .i64 c] 3 (0, 0))) own (some ⟨w.heap.size, 0, none⟩) 3 3 [a, b, c] := by
  refine ⟨rfl, ⟨[w.heap.size], .inr ⟨w.heap.size, 0, rfl, by simp, fun j hj => ?_⟩, fun k hk => ?_⟩, fun h => (by cases h), hr, by simp⟩
  · rw [cell_block (alloc_new rfl)]
    match j, hj with
    | 0, _ => rfl
    | 1, _ => rfl
    | 2, _ => rfl
  · simp at hk
    subst hk
    exact ⟨by simp, fun h => by have := hlt _ h; omega⟩
theorem oct_of {zs : List Int} (h : (zs.all fun z => decide (0 ≤ z) && decide (z ≤ 255)) = true) : Octets zs := fun i => by
  by_cases hi : i < zs.length
  · have := List.all_eq_true.1 h (zs.getD i 0) (by simp [hi])
    simpa using this
  · simp [Nat.le_of_not_lt hi]
theorem lit_has (w : World) (zs : List Int) (fr : Nat × Nat) : Has (w.alloc (.cells (vals zs).toArray 5 fr)) (some ⟨w.heap.size, 0, none⟩) zs := Has.of_block (alloc_new rfl)
set_option maxHeartbeats 4000000 in
theorem awake_any (w : World) : Calls Try.prog 7 #[] w fun e w' => e = .returned (.bool true) ∧ Below w.heap.size w w' := by
  have HN := hide2 (one_new 10 w (by omega) ⟨#[97]⟩ nm_a)
  obtain ⟨d, hd⟩ : ∃ d, w.heap.size = d := ⟨_, rfl⟩
  rw [hd] at HN
  have HD := hide2 hd
  have kc := fun (w : World) (C : Array Value) (n c : Nat) => Lib.run_convert_bytes_const (P := Try.prog) w 32 5 C n c Try.underlying32 Try.underlying5
  go_enter Try.func7, Try.ntmps7
  go_wp2_with fail
  refine Calls.mono HN.out ?_
  rintro e w1 ⟨rfl, hb1, hc⟩
  have HC := hide2 hc
  clear hc hb1 HN
  go_wp2_with fail
  refine Calls.mono HC.out ?_
  rintro e w2 ⟨v, rfl, hv, own, hO, hb, hlow⟩
  subst hv
  have HO := hide2 hO
  have HB := hide2 hb
  have HL := hide2 hlow
  clear hO hb hlow HC
  go_wp2_with fail
  refine Calls.mono (one_write (HO.out.below ((Below.refl _ _).alloc (Nat.le_refl _) _)) (by omega) nm_a 0 (Nat.zero_le _) (some ⟨w2.heap.size, 0, none⟩) 3 3 [97, 98, 99] rfl (fun h => by cases h) (lit_has w2 [97, 98, 99] _) (oct_of (by decide)) (by omega) (by omega)) ?_
  rintro e w3 ⟨v, rfl, hv, own3, hO3, hf3⟩
  subst hv
  have HO3 : Hid (OneR w3 d d ⟨#[97]⟩ 10 ⟨[], [.wr 0 [97, 98, 99]], [97, 98, 99]⟩ False 2 own3) := hO3
  have HF3 := hide2 ((Fr.below ((Below.refl _ w2).alloc (Nat.le_refl _) _) own).trans hf3)
  clear hO3 hf3 HO
  go_wp2_with fail
  refine Calls.mono (one_sync HO3.out (by omega) nm_a) ?_
  rintro e w4 ⟨v, rfl, hv, own4, hO4, hf4⟩
  subst hv
  have HO4 : Hid (OneR w4 d d ⟨#[97]⟩ 10 ⟨[97, 98, 99], [], [97, 98, 99]⟩ False 2 own4) := hO4
  have HF4 := hide2 (HF3.out.trans hf4)
  clear hO4 hf4 HO3 HF3
  go_wp2_with fail
  refine Calls.mono (one_syncdir HO4.out (by omega)) ?_
  rintro e w5 ⟨v, rfl, hv, own5, hO5, hf5⟩
  subst hv
  have HO5 := hide2 hO5
  have HF5 := hide2 (HF4.out.trans hf5)
  clear hO5 hf5 HO4 HF4
  go_wp2_with fail
  refine Calls.mono (one_write (HO5.out.below ((Below.refl _ _).alloc (Nat.le_refl _) _)) (by omega) nm_a 1 (by decide) (some ⟨w5.heap.size, 0, none⟩) 2 2 [88, 89] rfl (fun h => by cases h) (lit_has w5 [88, 89] _) (oct_of (by decide)) (by omega) (by omega)) ?_
  rintro e w6 ⟨v, rfl, hv, own6, hO6, hf6⟩
  subst hv
  have HO6 : Hid (OneR w6 d d ⟨#[97]⟩ 10 ⟨[97, 98, 99], [.wr 1 [88, 89]], [97, 88, 89]⟩ True 3 own6) := hO6
  have HF6 := hide2 (HF5.out.trans ((Fr.below ((Below.refl _ w5).alloc (Nat.le_refl _) _) own5).trans hf6))
  clear hO6 hf6 HO5 HF5
  go_wp2_with fail
  refine Calls.mono (one_crash (HO6.out.below ((Below.refl _ _).alloc (Nat.le_refl _) _)) (by omega) (some ⟨w6.heap.size, 0, none⟩) 3 3 [0, 0, 1] (chs3 (fun k hk => HO6.out.lt hk) 0 0 1 (by decide))) ?_
  rintro e w7 ⟨rfl, own7, hf7, ⟨s7, hR7, hd7⟩, hu7⟩
  have HR7 := hide2 (And.intro hR7 hd7)
  have HU7 := hide2 hu7
  have HF7 := hide2 (HF6.out.trans ((Fr.below ((Below.refl _ w6).alloc (Nat.le_refl _) _) own6).trans hf7))
  clear hR7 hd7 hu7 hf7 HO6 HF6
  go_wp2_with fail
  refine Calls.mono (read_down_rep w7 d d s7 3 own7 HR7.out.1 HR7.out.2 ⟨#[97]⟩) ?_
  rintro e w8 ⟨rfl, hb8⟩
  have HB8 := hide2 hb8
  clear hb8
  go_wp2_with fail
  refine Calls.mono (HU7.out w8 HB8.out) ?_
  rintro e w9 ⟨rfl, own9, hO9, hf9⟩
  have HO9 : Hid (OneR w9 d d ⟨#[97]⟩ 10 ⟨[97, 88, 99], [], [97, 88, 99]⟩ True 3 own9) := hO9
  have HF9 := hide2 (HF7.out.trans ((Fr.below HB8.out own7).trans hf9))
  clear hO9 hf9 HB8 HU7 HR7 HF7
  go_wp2_with fail
  refine Calls.mono (one_read HO9.out (by omega) nm_a) ?_
  rintro e w10 ⟨v10, rfl, hB10, hb10⟩
  obtain ⟨ao, cp, rfl, hbare, hh, _⟩ := hB10.form
  have sc := str_of w10 ao 3 cp [97, 88, 99] rfl hh
  have hsb : bstr [97, 88, 99] = ⟨#[97, 88, 99]⟩ := by decide
  rw [hsb] at sc
  have HO10 := hide2 (HO9.out.below hb10)
  have HF10 := hide2 (HF9.out.trans (Fr.below hb10 own9))
  clear hB10 hb10 hbare hh HO9 HF9 hsb
  go_wp2_with fail
  refine Calls.mono (one_arg HO10.out ⟨#[97, 47, 98]⟩ nm_ab (by decide)) ?_
  rintro e w11 ⟨v, rfl, hv, hb11⟩
  subst hv
  have HO11 := hide2 (HO10.out.below hb11)
  have HF11 := hide2 (HF10.out.trans (Fr.below hb11 own9))
  clear hb11 HO10 HF10 sc
  obtain ⟨o11, ho11⟩ : ∃ o11 : Array Value, o11 = (vals (List.replicate 11 0)).toArray := ⟨_, rfl⟩
  have mk : (Instr.makeSlice 32 (.int .i64 11) (.int .i64 11)).run Try.prog w11 = .ok (.slice (some ⟨w11.heap.size, 0, none⟩) 11 11) (w11.alloc (.cells o11 5 (0, 0))) := by
    rw [ho11]
    have h := run_make_row' (P := Try.prog) 32 5 (.int .u8 0) 1 Try.underlying32 Try.info5 rfl .i64 .i64 11 (by decide) (by decide) w11
    have hm : madeCells #[Value.int .u8 0] 11 = (vals (List.replicate 11 0)).toArray := by kernel_rfl
    rw [hm] at h
    exact h
  have HH : Hid (Has (w11.alloc (.cells o11 5 (0, 0))) (some ⟨w11.heap.size, 0, none⟩) (List.replicate 11 0)) := by rw [ho11]; exact lit_has w11 _ _
  clear ho11
  go_wp2_with fail
  refine Calls.mono (one_full (HO11.out.below ((Below.refl _ _).alloc (Nat.le_refl _) _)) (by omega) nm_a 0 (Nat.zero_le _) (some ⟨w11.heap.size, 0, none⟩) 11 11 (List.replicate 11 0) (by simp) (fun h => by cases h) HH.out (oct_of (by decide)) (by omega) (by decide) (by omega)) ?_
  rintro e w12 ⟨v, rfl, hv, hb12⟩
  subst hv
  have HF12 := hide2 (HF11.out.trans ((Fr.below ((Below.refl _ w11).alloc (Nat.le_refl _) _) own9).trans (Fr.below hb12 own9)))
  clear hb12 HO11 HF11 mk HH
  go_wp2
  go_ret
  refine ⟨rfl, ?_⟩
  have hf := HF12.out
  have hb := HB.out
  have hl := HL.out
  rw [HD.out]
  exact ⟨hf.os.trans hb.os, hf.tape.trans hb.tape, hf.output.trans hb.output, by have := hf.size; have := hb.size; rw [HD.out] at this; rw [HD.out]; omega, fun k hk => (hf.block k (by have := hb.size; rw [HD.out] at this; omega) fun h' => by have := hl k h'; omega).trans (hb.block k hk)⟩
end Go.Proofs.Ytkmohpdcchpndaa

/-
  The helpers lent, ints, round.
-/
namespace Go.Proofs.Ytkmohpdcchpndaa
open Go.RowKit
set_option linter.unusedVariables false
set_option linter.unusedSimpArgs false
set_option maxRecDepth 100000
theorem hideL {p : Prop} (h : p) : Hid p := h
theorem lent_fin {w w1 w2 : World} {v1 v2 : Value} {zs : List Int} {n : Nat} (hn : zs.length = n) (ho : Octets zs) (B1 : Hid (Below w.heap.size w w1)) (H1 : Hid (Buf (w1.alloc (.cells #[.int .u8 201, .int .u8 202] 5 (0, 0))) w.heap.size v1 zs)) (h2 : Buf w2 w.heap.size v2 (zs ++ [201, 202])) (hg : (w1.alloc (.cells #[.int .u8 201, .int .u8 202] 5 (0, 0))).grownBy w2 v1.ownBlock) :
    ∃ g off cp, v2 = .slice (some ⟨g, off, none⟩) (n + 2) cp ∧ Hid (Has w2 (some ⟨g, off, none⟩) zs) ∧ (n : Int) + 2 ≤ cp ∧ (cp : Int) ≤ 9223372036854775807 ∧ w.heap.size ≤ g ∧ Hid (Below w.heap.size w w2) := by
  have bw : Below w.heap.size w w2 := (B1.out.alloc B1.out.size _).grown hg (by have := B1.out.size; simp; omega) (fun k hk => (H1.out.low hk).1)
  rcases h2.2 with ⟨_, h⟩ | ⟨g, off, cap, cur, rfl, hb, hgg, q1, q2, q3, q4⟩
  · simp at h
  have hle : (zs ++ [201, 202]).length = n + 2 := by simp [hn]
  rw [hle] at q1 q4 ⊢
  unfold maxLen at q2
  refine ⟨g, off, cap, rfl, .inr ⟨_, rfl, fun j hj => ?_⟩, by omega, by omega, hb, bw⟩
  rw [Addr.add_lit, q4 j (by omega)]
  simp [List.getD, List.getElem?_append_left hj]
theorem lent_any (w : World) (a : Option Addr) (n cap : Nat) (zs : List Int) (hn : zs.length = n) (hB : Has w a zs) (ho : Octets zs) (hbare : a = none → cap = 0) (hl : n ≤ 140737488351232) :
    Calls Try.prog 20 #[.slice a n cap] w fun e w' => ∃ g off cp, e = .returned (.slice (some ⟨g, off, none⟩) n cp) ∧ Has w' (some ⟨g, off, none⟩) zs ∧ w.heap.size ≤ g ∧ Below w.heap.size w w' := by
  obtain ⟨i0, hi, hz0, hz1, hz2⟩ := info_parts Try.info5
  have HL : Hid (zs.length = n) := hn
  have HO : Hid (Octets zs) := ho
  have HH : Hid (Has w a zs) := hB
  have HQ : Hid (a = none → cap = 0) := hbare
  clear hn ho hB hbare
  go_enter Try.func20, Try.ntmps20
  go_wp2_with (first
    | (at_builtin; refine wpList_append_buf _ rfl (.tmp 4) (.tmp 5) 32 rfl w.heap.size i0 Try.underlying32 hi hz0 hz1 hz2 (.slice none 0 0) [] rfl (Buf.nil _ _) a n cap zs rfl HL.out HQ.out HH.out HO.out (by simp; omega) (Nat.le_refl _) ?_; intro v1 w1 hb1 hg1 _; have B1 : Hid (Below w.heap.size w w1) := (Below.refl _ _).grown hg1 (Nat.le_refl _) (fun k h => by cases h); have H1 : Hid (Buf (w1.alloc (.cells #[.int .u8 201, .int .u8 202] 5 (0, 0))) w.heap.size v1 zs) := hb1.keep (fun k hk => Below.heap_alloc _ _ k (hb1.low hk).2); clear hb1 hg1)
    | (at_builtin; refine wpList_append_buf _ rfl (.tmp 6) (.tmp 7) 32 rfl w.heap.size i0 Try.underlying32 hi hz0 hz1 hz2 v1 zs rfl H1.out (some ⟨w1.heap.size, 0, none⟩) 2 2 [201, 202] rfl rfl (fun h => by cases h) (Has.of_block (zs := [201, 202]) (Go.heap_alloc_new w1 _)) (fun j => by match j with | 0 => simp | 1 => simp | j + 2 => simp) (by rw [HL.out]; omega) (by have := B1.out.size; simp; omega) ?_; intro v2 w2 hb2 hg2 _; obtain ⟨g, off, cp, rfl, H2, k1, k2, k3, B2⟩ := lent_fin HL.out HO.out B1 H1 hb2 hg2; clear hb2 hg2 H1 B1))
  go_ret
  exact ⟨g, off, cp, rfl, H2.out, k3, B2.out⟩
/-- Euclid's remainder -/
def rnd (a n : Int) : Int := if a.tmod n < 0 then a.tmod n + n else a.tmod n
theorem rnd_range (a n : Int) (hn : 0 < n) : 0 ≤ rnd a n ∧ rnd a n < n := by
  have h1 : a.tmod n < n := Int.tmod_lt_of_pos a hn
  have h2 : -n < a.tmod n := by
    by_cases hc : 0 ≤ a
    · have := Int.tmod_nonneg n hc; omega
    · have := Int.tmod_lt_of_pos (-a) hn
      rw [Int.neg_tmod] at this; omega
  unfold rnd
  split <;> omega
theorem round_any (w : World) (a n : Int) (h0 : 0 < n) (h1 : n ≤ 1099511627776) (ha : -9223372036854775808 ≤ a ∧ a ≤ 9223372036854775807) : Calls Try.prog 24 #[.int .i64 a, .int .i64 n] w fun e w' => e = .returned (.int .i64 (rnd a n)) ∧ w' = w := by
  have hr := rnd_range a n h0
  have h1' : a.tmod n < n := Int.tmod_lt_of_pos a h0
  have h2' : -n < a.tmod n := by
    by_cases hc : 0 ≤ a
    · have := Int.tmod_nonneg n hc; omega
    · have := Int.tmod_lt_of_pos (-a) h0
      rw [Int.neg_tmod] at this; omega
  have hne : ¬ n = 0 := by omega
  by_cases hq : a.tmod n < 0
  · have e : rnd a n = a.tmod n + n := if_pos hq
    rw [e]
    clear hr e
    go_enter Try.func24, Try.ntmps24
    go_wp2
    go_ret
    exact ⟨rfl, rfl⟩
  · have e : rnd a n = a.tmod n := if_neg hq
    rw [e]
    clear hr e
    go_enter Try.func24, Try.ntmps24
    go_wp2
    go_ret
    exact ⟨rfl, rfl⟩
theorem Try.info3i : (Try.prog.info? 3).map (fun i => (i.zero, i.size, i.bytes)) = some (some (.int .i64 0), 1, 8) := by kernel_rfl
abbrev ivs (cs : List Int) : List Value := cs.map (Value.int .i64)
/-- numbers that came in -/
def Nums (w : World) (a : Option Addr) (cs : List Int) : Prop := (a = none ∧ cs = []) ∨ ∃ x, a = some x ∧ ∀ j, j < cs.length → w.cell? (x.add j) = some (.int .i64 (cs.getD j 0))
theorem Nums.below {w w' : World} {a : Option Addr} {cs : List Int} (h : Nums w a cs) (hb : Below w.heap.size w w') : Nums w' a cs := by
  rcases h with h | ⟨x, e, hc⟩
  · exact .inl h
  · exact .inr ⟨x, e, fun j hj => cell_of_below hb (hc j hj)⟩
theorem ivs_one (cs : List Int) : ∀ u ∈ ivs cs, u.oneCell' = true := fun u hu => by
  obtain ⟨z, _, rfl⟩ := List.mem_map.1 hu
  rfl
theorem ints_fin {w w1 w2 : World} {v1 v2 : Value} {cs : List Int} {n : Nat} (hn : cs.length = n) (B1 : Hid (Below w.heap.size w w1)) (H1 : Hid ((w1.alloc (.cells #[.int .i64 (-77)] 3 (0, 0))).ownsRow w.heap.size 3 1 v1 n (ivs cs))) (h2 : w2.ownsRow w.heap.size 3 1 v2 (n + 1) (ivs cs ++ ivs [-77])) (hg : (w1.alloc (.cells #[.int .i64 (-77)] 3 (0, 0))).grownBy w2 v1.ownBlock) :
    ∃ g cp, v2 = .slice (some ⟨g, 0, none⟩) (n + 1) cp ∧ Hid (∀ j, j < cs.length → w2.cell? ⟨g, 0 + j, none⟩ = some (.int .i64 (cs.getD j 0))) ∧ (n : Int) + 1 ≤ cp ∧ (cp : Int) ≤ 9223372036854775807 ∧ w.heap.size ≤ g ∧ g < w2.heap.size ∧ Hid (Below w.heap.size w w2) := by
  have bw : Below w.heap.size w w2 := (B1.out.alloc B1.out.size _).grown hg (by have := B1.out.size; simp; omega) (fun k hk => (H1.out.lt k hk).1)
  obtain ⟨g, cp, rfl, _⟩ := h2.form (by omega)
  have hc := own_cap h2
  have hlt := h2.lt g rfl
  unfold maxLen at hc
  refine ⟨g, cp, rfl, fun j hj => ?_, by omega, by omega, hlt.1, hlt.2, bw⟩
  rw [Nat.zero_add, h2.cellAt j (by omega), List.getElem?_append_left (by simpa using hj), List.getElem?_map, List.getElem?_eq_getElem hj]
  simp [List.getD, hj]
/-- what ints leaves -/
structure IntsOut (w w' : World) (cs : List Int) (n g cp : Nat) : Prop where
  cells : ∀ j, j < cs.length → w'.cell? ⟨g, 0 + j, none⟩ = some (.int .i64 (cs.getD j 0))
  new : w.heap.size ≤ g
  lt : g < w'.heap.size
  bel : Below w.heap.size w w'
theorem ints_any (w : World) (a : Option Addr) (n cap : Nat) (cs : List Int) (hn : cs.length = n) (hN : Nums w a cs) (hbare : a = none → cap = 0) (hl : n ≤ 17592186043904) :
    Calls Try.prog 14 #[.slice a n cap] w fun e w' => ∃ g cp, e = .returned (.slice (some ⟨g, 0, none⟩) n cp) ∧ IntsOut w w' cs n g cp := by
  obtain ⟨i0, hi, hz0, hz1, hz2⟩ := info_parts Try.info3i
  have HL : Hid (cs.length = n) := hn
  have HE : Hid (w.ownsRow w.heap.size 3 1 (.slice none 0 0) 0 []) := World.ownsRow_nil _ _ _ _
  have H1 : Hid (∀ u ∈ ivs [-77], u.oneCell' = true) := ivs_one _
  have HO : Hid (∀ u ∈ ivs cs, u.oneCell' = true) := ivs_one cs
  rcases hN with ⟨rfl, rfl⟩ | ⟨x0, rfl, hc⟩
  · obtain rfl := hbare rfl
    obtain rfl : n = 0 := by simpa using hn.symm
    clear hn hbare
    go_enter Try.func14, Try.ntmps14
    go_wp2_with (first
      | (at_builtin; refine wpList_append_own_none rfl (.tmp 4) (.tmp 5) 23 rfl w.heap.size 3 i0 1 Try.underlying23 hi (.slice none 0 0) 0 [] rfl HE.out rfl ?_)
      | (at_builtin; refine wpList_append_own _ rfl (.tmp 6) (.tmp 7) 23 rfl w.heap.size 3 i0 (.int .i64 0) 1 8 Try.underlying23 hi hz0 hz1 hz2 rfl (by omega) (.slice none 0 0) 0 [] rfl (World.ownsRow_nil _ _ _ _) ⟨w.heap.size, 0, none⟩ 1 1 (ivs [-77]) rfl rfl (World.news_of_block (Go.heap_alloc_new w _)) H1.out (by unfold maxLen; omega) (by omega) (by simp) ?_; intro v2 w2 hb2 hg2 _; obtain ⟨g, cp, rfl, H2, k1, k2, k3, k4, B2⟩ := ints_fin (w := w) (w1 := w) (cs := []) rfl (Below.refl _ _) (World.ownsRow_nil _ _ _ _) hb2 hg2; clear hb2 hg2))
    go_ret
    exact ⟨g, cp, rfl, ⟨fun j hj => (by cases hj), k3, k4, B2.out⟩⟩
  · have HW : Hid (∀ j u, (ivs cs)[j]? = some u → w.cell? (x0.add j) = some u) := fun j u hj => by
      rw [List.getElem?_map] at hj
      obtain ⟨c, hcc, rfl⟩ := Option.map_eq_some_iff.1 hj
      have hjl := (List.getElem?_eq_some_iff.1 hcc).1
      rw [hc j hjl]
      simp [List.getD, hcc]
    have HLL : Hid ((ivs cs).length = n * 1) := (by simp [hn] : (ivs cs).length = n * 1)
    clear hn hbare hc
    go_enter Try.func14, Try.ntmps14
    go_wp2_with (first
      | (at_builtin; refine wpList_append_own _ rfl (.tmp 4) (.tmp 5) 23 rfl w.heap.size 3 i0 (.int .i64 0) 1 8 Try.underlying23 hi hz0 hz1 hz2 rfl (by omega) (.slice none 0 0) 0 [] rfl HE.out x0 n cap (ivs cs) rfl HLL.out HW.out HO.out (by unfold maxLen; omega) (by omega) (Nat.le_refl _) ?_; intro v1 w1 hb1 hg1 _; have B1 : Hid (Below w.heap.size w w1) := (Below.refl _ _).grown hg1 (Nat.le_refl _) (fun k h => by cases h); have R1 : Hid ((w1.alloc (.cells #[.int .i64 (-77)] 3 (0, 0))).ownsRow w.heap.size 3 1 v1 n (ivs cs)) := (by rw [Nat.zero_add, List.nil_append] at hb1; exact own_blk' hb1 (fun k hk => Below.heap_alloc _ _ k (hb1.lt k hk).2)); clear hb1 hg1)
      | (at_builtin; refine wpList_append_own _ rfl (.tmp 6) (.tmp 7) 23 rfl w.heap.size 3 i0 (.int .i64 0) 1 8 Try.underlying23 hi hz0 hz1 hz2 rfl (by omega) v1 n (ivs cs) rfl R1.out ⟨w1.heap.size, 0, none⟩ 1 1 (ivs [-77]) rfl rfl (World.news_of_block (Go.heap_alloc_new w1 _)) H1.out (by unfold maxLen; omega) (by omega) (by have := B1.out.size; simp; omega) ?_; intro v2 w2 hb2 hg2 _; obtain ⟨g, cp, rfl, H2, k1, k2, k3, k4, B2⟩ := ints_fin HL.out B1 R1 hb2 hg2; clear hb2 hg2 R1 B1))
    go_ret
    exact ⟨g, cp, rfl, ⟨H2.out, k3, k4, B2.out⟩⟩
end Go.Proofs.Ytkmohpdcchpndaa

/-
  A file that is written under another name, synced and renamed: what the disk says, step by step.
-/
namespace Go.Proofs.Ytkmohpdcchpndaa
open Go.RowKit Go.Maps
set_option linter.unusedVariables false
set_option linter.unusedSimpArgs false
set_option maxRecDepth 100000
noncomputable def renS (s : DS) (fr to_ : ByteArray) (n : Nat) : DS := { s with dc := s.dc ++ [.rn fr to_ n], dn := dirDo s.dn (.rn fr to_ n) }
theorem rename_rep (w : World) (base d : Nat) (s : DS) (N : Nat) (own : Nat → Prop) (h : Rep w base d s N own) (hN : N + 1 < 1000000) (hup : s.down = false) (fr to_ : ByteArray) (hfr : nmOk fr) (hto : nmOk to_) (n : Nat) (hn : s.dn fr = some n) :
    Op 26 #[.pointer (some ⟨d, 0, none⟩), .string fr, .string to_] w base d own (finS (renS s fr to_ n)) (N + 1) := by
  obtain ⟨x, am, fo, nf, es, lab, hx, rfl⟩ := h
  obtain ⟨e, he, rfl⟩ := hx.ent hn
  have hb1 := hx.b1; have hb2 := hx.b2; have hb3 := hx.b3; have hb4 := hx.b4
  have hh := hx.dn.has hn
  have hok : Dc.ok (.rn fr to_ e.num) x.now := by
    obtain ⟨D, e1, _⟩ := hh
    show x.now ≠ none
    rw [e1]; simp
  refine rename_ok w base d x am fo nf s.made es lab hx.dk e he (by rw [hx.c1, hup]) fr to_ hfr hto (name_short hfr) (name_short hto) hh (by omega) (by omega) (by omega) hx.b7 _ ?_
  intro w1 x' lab' dv ro dk1 kt hro e1 e2 e3 e4 e5 e6 e7
  have hx1 : RepX w1 base d (renS s fr to_ e.num) (N + 1) x' am fo nf es lab' := by
    refine ⟨dk1, e6.trans hx.c0, e7.trans hx.c1, hx.arm, by rw [e1]; exact hx.dl, by rw [e5, List.map_append, hx.dc]; rfl, by rw [e3]; exact has_do_iff (c := .rn fr to_ e.num) hx.dk.dir.now.isMap hok hx.dn, hx.fl, Nat.le_succ_of_le hx.b1, by omega, by rw [e2, e5]; simp; omega, by omega, fun y hy => Nat.le_succ_of_le (hx.b5 y hy), hx.fok, hx.b6, Nat.le_trans hx.b7 kt.size⟩
  refine ans_fr (fr_of kt fun k hk => ?_) (done_rep w1 base d _ (N + 1) x' am fo nf es lab' hx1 hN hup)
  rcases hk with ⟨c, hc, hk⟩ | hk | ha
  · rw [e5, List.mem_append, List.mem_singleton] at hc
    rcases hc with hc | rfl
    · exact .inl (.inr (.inl ⟨c, hc, hk⟩))
    · exact .inr (hro k hk)
  · exact .inl (.inr (.inr (.inl hk)))
  · exact .inl (.inr (.inr (.inr ha)))
/-- a file of which nothing is loose stays, whatever fails -/
theorem fail_stays {g : Dir'} {cs : List Int} {n : Nat} {b : List Int} : ∀ {ns : List ByteArray} {fl : Nat → FM} {i : Nat}, fl n = ⟨b, [], b⟩ → (failF g cs ns fl i).1 n = ⟨b, [], b⟩
  | [], fl, i, h => h
  | nm :: r, fl, i, h => by
    unfold failF
    split
    · rename_i m hm
      refine fail_stays ?_
      by_cases e : n = m
      · subst e
        rw [updF_same, h]
        have : (lastF ⟨b, [], b⟩ cs i).1 = b := by simp [lastF, chgAll]
        rw [this]
      · rw [updF_other _ _ e]; exact h
    · exact fail_stays h
abbrev nF : ByteArray := ⟨#[102]⟩
abbrev nG : ByteArray := ⟨#[103]⟩
theorem fg : nF ≠ nG := by decide
theorem nm_f : nmOk nF := ⟨by decide, by decide, fun i hi => by
  have : i = 0 := by have : i < 1 := hi; omega
  subst this
  exact ⟨by decide, by decide, by decide⟩⟩
theorem nm_g : nmOk nG := ⟨by decide, by decide, fun i hi => by
  have : i = 0 := by have : i < 1 := hi; omega
  subst this
  exact ⟨by decide, by decide, by decide⟩⟩
/-- the power is off, and the file f has these bytes -/
def Dead (b : List Int) (s : DS) : Prop := s.down = true ∧ ∃ n, s.dn nF = some n ∧ s.fl n = ⟨b, [], b⟩
theorem dead_of {s : DS} {cs : List Int} {n : Nat} {b : List Int} (h : dirAll s.dl (s.dc.take (chosen cs 0 s.dc.length).toNat) nF = some n) (hf : s.fl n = ⟨b, [], b⟩) : Dead b (crashS s cs) := ⟨rfl, n, h, fail_stays hf⟩
open Classical in
/-- what stays in all of it -/
structure PB (Old cs : List Int) (s : DS) : Prop where
  up : s.down = false
  arm : ∃ A, s.arm = some (A, cs)
  room : s.room = 65536
  f1 : s.fl 1 = ⟨Old, [], Old⟩
  dl : ∀ a, s.dl a = if a = nF then some 1 else none
open Classical in
structure P0 (Old cs : List Int) (s : DS) : Prop extends PB Old cs s where
  dc : s.dc = []
  dn : ∀ a, s.dn a = if a = nF then some 1 else none
  made : s.made = 1
open Classical in
structure P1 (Old cs z : List Int) (s : DS) : Prop extends PB Old cs s where
  dc : s.dc = [.nm nG 2]
  dn : ∀ a, s.dn a = if a = nG then some 2 else if a = nF then some 1 else none
  f2 : (s.fl 2).now = z
structure P1s (Old cs z : List Int) (s : DS) : Prop extends P1 Old cs z s where
  f2s : s.fl 2 = ⟨z, [], z⟩
open Classical in
structure P2 (Old cs z : List Int) (s : DS) : Prop extends PB Old cs s where
  dc : s.dc = [.nm nG 2, .rn nG nF 2]
  dn : ∀ a, s.dn a = if a = nF then some 2 else none
  f2s : s.fl 2 = ⟨z, [], z⟩
open Classical in
structure P3 (cs z : List Int) (s : DS) : Prop where
  up : s.down = false
  dc : s.dc = []
  dl : ∀ a, s.dl a = if a = nF then some 2 else none
  f2s : s.fl 2 = ⟨z, [], z⟩
theorem fin_cases {s : DS} {A : Nat} {cs : List Int} (h : s.arm = some (A, cs)) : (finS s = (0, tickS s) ∧ goesS s = false) ∨ (finS s = (32, crashS s cs) ∧ goesS s = true) := by
  cases A with
  | zero => right; unfold finS goesS; rw [h]; exact ⟨rfl, rfl⟩
  | succ k => left; unfold finS goesS; rw [h]; exact ⟨rfl, rfl⟩
theorem PB.tick {Old cs : List Int} {s : DS} (h : PB Old cs s) : PB Old cs (tickS s) := by
  obtain ⟨A, hA⟩ := h.arm
  exact ⟨h.up, ⟨A - 1, by show s.arm.map _ = _; rw [hA]; rfl⟩, h.room, h.f1, h.dl⟩
theorem take_one {α : Type} (a : α) (k : Nat) : [a].take k = [] ∨ [a].take k = [a] := by
  cases k with
  | zero => exact .inl rfl
  | succ k => right; simp
theorem take_two {α : Type} (a b : α) (k : Nat) : [a, b].take k = [] ∨ [a, b].take k = [a] ∨ [a, b].take k = [a, b] := by
  match k with
  | 0 => exact .inl rfl
  | 1 => exact .inr (.inl rfl)
  | k + 2 => right; right; simp
/-- the directory f names the old file -/
theorem P1.dead {Old cs z : List Int} {s : DS} (h : P1 Old cs z s) : Dead Old (crashS s cs) := by
  refine dead_of (n := 1) ?_ h.f1
  rw [h.dc]
  rcases take_one (Dc.nm nG 2) (chosen cs 0 [Dc.nm nG 2].length).toNat with e | e <;> rw [e]
  · show s.dl nF = _
    rw [h.dl]; simp
  · show dirDo s.dl (.nm nG 2) nF = _
    simp only [dirDo]
    rw [if_neg fg, h.dl]; simp
theorem P2.dead {Old cs z : List Int} {s : DS} (h : P2 Old cs z s) : Dead Old (crashS s cs) ∨ Dead z (crashS s cs) := by
  rcases take_two (Dc.nm nG 2) (Dc.rn nG nF 2) (chosen cs 0 [Dc.nm nG 2, Dc.rn nG nF 2].length).toNat with e | e | e
  · left
    refine dead_of (n := 1) ?_ h.f1
    rw [h.dc, e]
    show s.dl nF = _
    rw [h.dl]; simp
  · left
    refine dead_of (n := 1) ?_ h.f1
    rw [h.dc, e]
    show dirDo s.dl (.nm nG 2) nF = _
    simp only [dirDo]
    rw [if_neg fg, h.dl]; simp
  · right
    refine dead_of (n := 2) ?_ h.f2s
    rw [h.dc, e]
    show dirDo (dirDo s.dl (.nm nG 2)) (.rn nG nF 2) nF = _
    simp [dirDo]
theorem P3.dead {cs z : List Int} {s : DS} (h : P3 cs z s) (cs' : List Int) : Dead z (crashS s cs') := by
  refine dead_of (n := 2) ?_ h.f2s
  rw [h.dc, List.take_nil]
  show s.dl nF = _
  rw [h.dl]; simp
theorem P0.create {Old cs : List Int} {s : DS} (h : P0 Old cs s) : ∃ s', P1 Old cs [] s' ∧ (finS (createS s nG) = (0, s') ∨ (finS (createS s nG)).1 = 32 ∧ Dead Old (finS (createS s nG)).2) := by
  have p1 : P1 Old cs [] (createS s nG) := by
    refine ⟨⟨h.up, h.arm, h.room, ?_, h.dl⟩, ?_, fun a => ?_, ?_⟩
    · show updF s.fl (s.made + 1) _ 1 = _
      rw [h.made, updF_other _ _ (by decide)]; exact h.f1
    · show s.dc ++ [.nm nG (s.made + 1)] = _
      rw [h.dc, h.made]; rfl
    · show dirDo s.dn (.nm nG (s.made + 1)) a = _
      rw [h.made]
      simp only [dirDo]
      rw [h.dn]
    · show (updF s.fl (s.made + 1) ⟨[], [], []⟩ 2).now = []
      rw [h.made, updF_same]
  obtain ⟨A, hA⟩ := h.arm
  rcases fin_cases (s := createS s nG) hA with ⟨e, _⟩ | ⟨e, _⟩
  · exact ⟨_, ⟨p1.toPB.tick, p1.dc, p1.dn, p1.f2⟩, .inl e⟩
  · exact ⟨_, p1, .inr (by rw [e]; exact ⟨rfl, p1.dead⟩)⟩
theorem P1.write {Old cs z p : List Int} {s : DS} (h : P1 Old cs z s) : ∃ s', P1 Old cs (z ++ p) s' ∧ (finS (chgS s 2 (.wr z.length p)) = (0, s') ∨ (finS (chgS s 2 (.wr z.length p))).1 = 32 ∧ Dead Old (finS (chgS s 2 (.wr z.length p))).2) := by
  have p1 : P1 Old cs (z ++ p) (chgS s 2 (.wr z.length p)) := by
    refine ⟨⟨h.up, h.arm, h.room, ?_, h.dl⟩, h.dc, h.dn, ?_⟩
    · exact (updF_other s.fl ⟨(s.fl 2).last, (s.fl 2).chg ++ [Fc.wr z.length p], (Fc.wr z.length p).do (s.fl 2).now (Fc.wr z.length p).size⟩ (by decide : (1 : Nat) ≠ 2)).trans h.f1
    · have e : (chgS s 2 (.wr z.length p)).fl 2 = ⟨(s.fl 2).last, (s.fl 2).chg ++ [Fc.wr z.length p], (Fc.wr z.length p).do (s.fl 2).now (Fc.wr z.length p).size⟩ := updF_same s.fl 2 ⟨(s.fl 2).last, (s.fl 2).chg ++ [Fc.wr z.length p], (Fc.wr z.length p).do (s.fl 2).now (Fc.wr z.length p).size⟩
      rw [e]
      show over (s.fl 2).now z.length (p.take p.length) = _
      rw [h.f2, List.take_length]
      simp [over]
  obtain ⟨A, hA⟩ := h.arm
  rcases fin_cases (s := chgS s 2 (.wr z.length p)) hA with ⟨e, _⟩ | ⟨e, _⟩
  · exact ⟨_, ⟨p1.toPB.tick, p1.dc, p1.dn, p1.f2⟩, .inl e⟩
  · exact ⟨_, p1, .inr (by rw [e]; exact ⟨rfl, p1.dead⟩)⟩
theorem goes_arm {s s' : DS} (h : s'.arm = s.arm) : goesS s' = goesS s := by unfold goesS; rw [h]
theorem P1.sync {Old cs z : List Int} {s : DS} (h : P1 Old cs z s) : (∃ s', P1s Old cs z s' ∧ finS (syncF s 2) = (0, s')) ∨ (finS (syncF s 2)).1 = 32 ∧ Dead Old (finS (syncF s 2)).2 := by
  obtain ⟨A, hA⟩ := h.arm
  cases hg : goesS s with
  | true =>
    have e0 : syncF s 2 = s := by unfold syncF; rw [hg]; rfl
    rw [e0]
    rcases fin_cases hA with ⟨e, q⟩ | ⟨e, _⟩
    · rw [hg] at q; cases q
    · right; rw [e]; exact ⟨rfl, h.dead⟩
  | false =>
    have e0 : syncF s 2 = { s with fl := updF s.fl 2 ⟨(s.fl 2).now, [], (s.fl 2).now⟩ } := by unfold syncF; rw [hg]; rfl
    rw [e0]
    rcases fin_cases (s := { s with fl := updF s.fl 2 ⟨(s.fl 2).now, [], (s.fl 2).now⟩ }) hA with ⟨e, q⟩ | ⟨e, q⟩
    · left
      have f2 : updF s.fl 2 ⟨(s.fl 2).now, [], (s.fl 2).now⟩ 2 = ⟨z, [], z⟩ := by rw [updF_same, h.f2]
      have pb : PB Old cs { s with fl := updF s.fl 2 ⟨(s.fl 2).now, [], (s.fl 2).now⟩ } := ⟨h.up, h.arm, h.room, (updF_other s.fl ⟨(s.fl 2).now, [], (s.fl 2).now⟩ (by decide : (1 : Nat) ≠ 2)).trans h.f1, h.dl⟩
      exact ⟨_, ⟨⟨pb.tick, h.dc, h.dn, congrArg FM.now f2⟩, f2⟩, e⟩
    · have q' : goesS s = true := q
      rw [hg] at q'; cases q'
theorem P1s.rename {Old cs z : List Int} {s : DS} (h : P1s Old cs z s) : (∃ s', P2 Old cs z s' ∧ finS (renS s nG nF 2) = (0, s')) ∨ (finS (renS s nG nF 2)).1 = 32 ∧ (Dead Old (finS (renS s nG nF 2)).2 ∨ Dead z (finS (renS s nG nF 2)).2) := by
  have p2 : P2 Old cs z (renS s nG nF 2) := by
    refine ⟨⟨h.up, h.arm, h.room, h.f1, h.dl⟩, ?_, fun a => ?_, h.f2s⟩
    · show s.dc ++ [.rn nG nF 2] = _
      rw [h.dc]; rfl
    · show dirDo s.dn (.rn nG nF 2) a = _
      simp only [dirDo]
      rw [h.dn]
      by_cases e1 : a = nF
      · simp [e1]
      · by_cases e2 : a = nG
        · simp [e1, e2]
        · simp [e1, e2]
  obtain ⟨A, hA⟩ := h.arm
  rcases fin_cases (s := renS s nG nF 2) hA with ⟨e, _⟩ | ⟨e, _⟩
  · exact .inl ⟨_, ⟨p2.toPB.tick, p2.dc, p2.dn, p2.f2s⟩, e⟩
  · exact .inr (by rw [e]; exact ⟨rfl, p2.dead⟩)
theorem P2.syncd {Old cs z : List Int} {s : DS} (h : P2 Old cs z s) : (∃ s', P3 cs z s' ∧ finS (syncD s) = (0, s')) ∨ (finS (syncD s)).1 = 32 ∧ (Dead Old (finS (syncD s)).2 ∨ Dead z (finS (syncD s)).2) := by
  obtain ⟨A, hA⟩ := h.arm
  cases hg : goesS s with
  | true =>
    have e0 : syncD s = s := by unfold syncD; rw [hg]; rfl
    rw [e0]
    rcases fin_cases hA with ⟨e, q⟩ | ⟨e, _⟩
    · rw [hg] at q; cases q
    · right; rw [e]; exact ⟨rfl, h.dead⟩
  | false =>
    have e0 : syncD s = { s with dl := s.dn, dc := [] } := by unfold syncD; rw [hg]; rfl
    rw [e0]
    rcases fin_cases (s := { s with dl := s.dn, dc := [] }) hA with ⟨e, q⟩ | ⟨e, q⟩
    · left
      exact ⟨tickS { s with dl := s.dn, dc := [] }, ⟨h.up, rfl, h.dn, h.f2s⟩, e⟩
    · have q' : goesS s = true := q
      rw [hg] at q'; cases q'
end Go.Proofs.Ytkmohpdcchpndaa
