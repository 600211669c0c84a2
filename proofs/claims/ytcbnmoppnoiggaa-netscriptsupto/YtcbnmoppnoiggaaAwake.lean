/-
  awake.
-/
import Derived.Test.YtcbnmoppnoiggaaSame
import Derived.Lib.SlBytesConst
import Derived.Laws.BytesArg
namespace Go.Proofs.Ytcbnmoppnoiggaa
open Go.RowKit
set_option linter.unusedVariables false
set_option linter.unusedSimpArgs false
theorem zero3 (w : World) : (zeroValue 3).run Try.prog w = .ok (.int .i64 0) w := by kernel_rfl
def bstr (zs : List Int) : ByteArray := zs.foldl (fun r n => r.push (UInt8.ofNat n.toNat)) ByteArray.empty
/-- The bytes as a string. -/
theorem str_of (w : World) (a : Option Addr) (n cap : Nat) (zs : List Int) (hn : zs.length = n) (hB : Has w a zs) : (convert 32 9 (.slice a n cap)).run Try.prog w = .ok (.string (bstr zs)) w := by
  rw [run_convert_bytes_string w 32 9 5 a n cap Try.underlying32 Try.underlying5 Try.underlying9]
  subst hn
  rcases hB with ⟨rfl, rfl⟩ | ⟨x, rfl, hB⟩
  · simp [Conv.bytesToString, bstr]
  · have hl := run_loadCells_list (P := Try.prog) w x (zs.map (Value.int .u8)) (fun j v hj => by
      obtain ⟨hj', rfl⟩ := vals_at zs j v hj
      exact hB j hj')
    simp only [List.length_map] at hl
    exact run_bytesToString w x zs.length cap zs hl
theorem Net.far {w w' : World} {base b : Nat} {row mv : Value} {cs : List Cn} (h : Net w base b row mv cs) (hk : ∀ k, k ∈ blocks b row cs → w'.heap[k]? = w.heap[k]?) : Net w' base b row mv cs :=
  ⟨(hk b (by simp [blocks])).trans h.net, h.low, own_block h.rw (fun k e => hk k (by simp [blocks, e])), fun c hc => (h.con c hc).keep fun k e => hk k (by simp only [blocks, List.mem_cons, List.mem_append, List.mem_flatMap]; exact .inr (.inr ⟨c, hc, e⟩)), h.nod, h.few⟩
theorem Net.alloc {w : World} {base b : Nat} {row mv : Value} {cs : List Cn} (h : Net w base b row mv cs) (o : Obj) : Net (w.alloc o) base b row mv cs :=
  h.far fun k hk => Below.heap_alloc w o k (h.lt k hk).2
theorem look_none (nm : ByteArray) (h : nm.size ≤ maxLen) (w : World) : (Instr.lookup 53 (.map none) (.string nm) false).run Try.prog w = .ok (.int .i64 0) w := by
  have := Maps.look_nil (w := w) false (Go.Maps.string_keyed Try.underlying9) Try.underlying53 (zero3 w) (Go.WideMaps.keyOf_string_mk Try.underlying9 h)
  simpa using this
theorem net_new (w : World) (base : Nat) (h : base ≤ w.heap.size) : Net (w.alloc (.cells #[.slice none 0 0, .map none] 55 (0, 0))) base w.heap.size (.slice none 0 0) (.map none) [] :=
  ⟨Go.heap_alloc_new w _, h, World.ownsRow_nil _ _ _ _, (fun c hc => by cases hc), by simp [blocks, Value.ownBlock], by simp⟩
theorem Dialed.trans {w w1 w2 : World} {base b : Nat} {row mv row1 mv1 row2 mv2 : Value} {cs cs1 cs2 : List Cn} (h : Dialed w w1 base b row mv cs row1 mv1 cs1) (g : Dialed w1 w2 base b row1 mv1 cs1 row2 mv2 cs2) : Dialed w w2 base b row mv cs row2 mv2 cs2 :=
  ⟨g.net, h.turn.trans g.turn h.sub, fun k hk => (g.sub k hk).elim (h.sub k) (fun h' => .inr (Nat.le_trans h.turn.size h'))⟩
theorem Dialed.below {w w1 : World} {base b : Nat} {row mv row1 mv1 : Value} {cs cs1 : List Cn} (h : Dialed w w1 base b row mv cs row1 mv1 cs1) (hn : Net w base b row mv cs) : Below base w w1 :=
  h.turn.below (Nat.le_trans hn.low (Nat.le_of_lt (lt_of_block hn.net))) (fun k hk => (hn.lt k hk).1)
theorem oct_hey : Octets [104, 101, 121] := fun i => by
  match i with
  | 0 => decide
  | 1 => decide
  | 2 => decide
  | i + 3 => simp
set_option maxRecDepth 100000 in
set_option maxHeartbeats 1000000 in
theorem awake_any (w : World) : Calls Try.prog 12 #[] w fun e w' => e = .returned (.bool true) ∧ Below w.heap.size w w' := by
  have HN := net_new w w.heap.size (Nat.le_refl _)
  go_enter Try.func12, Try.ntmps12
  go_wp2_with fail
  refine (new_any w).mono ?_
  rintro e w1 ⟨rfl, hw1⟩
  have B1 : Below w.heap.size w w1 := hw1 ▸ (Below.refl _ _).alloc (Nat.le_refl _) _
  rw [← hw1] at HN
  have hbig : w.heap.size < w1.heap.size := lt_of_block HN.net
  obtain ⟨b, hb⟩ : ∃ b, w.heap.size = b := ⟨_, rfl⟩
  have HB : Hid (w.heap.size = b) := hb
  rw [hb] at HN B1
  clear hw1 hbig
  have N1 : Hid (Net w1 b b (.slice none 0 0) (.map none) []) := HN
  have L1 : Hid (Below b w w1) := B1
  clear HN B1
  rw [hb]
  clear hb
  go_wp2_with fail
  refine (dial_ok b b _ none [] ⟨#[97]⟩ w1 N1.out (by decide) (look_none _ (by decide) w1)).mono ?_
  rintro e w2 ⟨rfl, k, row, D2⟩
  have N2 : Hid (Net w2 b b row (.map none) [Cn.fresh k ⟨#[97]⟩]) := D2.net
  have L2 : Hid (Below b w w2) := L1.out.trans (D2.below N1.out)
  clear D2
  have kc := fun (w : World) (C : Array Value) (n c : Nat) => Lib.run_convert_bytes_const (P := Try.prog) w 32 5 C n c Try.underlying32 Try.underlying5
  go_wp2_with fail
  have N3' := N2.out.alloc (.cells #[.int .u8 104, .int .u8 101, .int .u8 121] 5 (3, 4))
  have L3' := L2.out.alloc (by have := L2.out.size; have := HB.out; omega) (.cells #[.int .u8 104, .int .u8 101, .int .u8 121] 5 (3, 4))
  have HH : Has (w2.alloc (.cells #[.int .u8 104, .int .u8 101, .int .u8 121] 5 (3, 4))) (some ⟨w2.heap.size, 0, none⟩) [104, 101, 121] := Has.of_block (zs := [104, 101, 121]) (Go.heap_alloc_new w2 _)
  obtain ⟨w3, hw3⟩ : ∃ W, w2.alloc (.cells #[.int .u8 104, .int .u8 101, .int .u8 121] 5 (3, 4)) = W := ⟨_, rfl⟩
  rw [hw3] at N3' L3' HH ⊢
  have N3 : Hid (Net w3 b b row (.map none) [Cn.fresh k ⟨#[97]⟩]) := N3'
  have L3 : Hid (Below b w w3) := L3'
  refine (nwrite N3' 0 _ rfl false _ 3 3 [104, 101, 121] rfl (fun h => by cases h) HH oct_hey (Nat.zero_le _)).mono ?_
  clear N3' L3' HH hw3 kc
  rintro e w4 ⟨rfl, c4, hm4, D4⟩
  have e4 : mWrite (Cn.fresh k ⟨#[97]⟩).m false [104, 101, 121] = (0, ⟨⟨#[97]⟩, true, false, ⟨[104, 101, 121], [], false, false⟩, ⟨[], [], false, false⟩⟩) := rfl
  rw [e4] at hm4 ⊢
  have N4 : Hid (Net w4 b b row (.map none) [c4]) := D4.net
  have L4 : Hid (Below b w w4) := L3.out.trans (D4.below N3.out)
  have M4 : Hid (c4.m = ⟨⟨#[97]⟩, true, false, ⟨[104, 101, 121], [], false, false⟩, ⟨[], [], false, false⟩⟩) := hm4
  clear D4 e4 hm4
  go_wp2_with fail
  have hus : (c4.sd false).us.length + (c4.sd (!false)).ar.length ≤ 140737488355328 := by rw [← m_us, ← m_ar, M4.out]; decide
  refine (npass N4.out 0 _ rfl false 2 hus).mono ?_
  rintro e w5 ⟨rfl, c5, hm5, D5⟩
  have e5 : mPass c4.m false 2 = (2, 0, ⟨⟨#[97]⟩, true, false, ⟨[121], [], false, false⟩, ⟨[], [104, 101], false, false⟩⟩) := by rw [M4.out]; rfl
  rw [e5] at hm5 ⊢
  have N5 : Hid (Net w5 b b row (.map none) [c5]) := D5.net
  have L5 : Hid (Below b w w5) := L4.out.trans (D5.below N4.out)
  have M5 : Hid (c5.m = ⟨⟨#[97]⟩, true, false, ⟨[121], [], false, false⟩, ⟨[], [104, 101], false, false⟩⟩) := hm5
  clear D5 e5 hm5 hus
  go_wp2_with fail
  refine (nread N5.out 0 _ rfl true).mono ?_
  rintro e w6 ⟨v, rfl, c6, hm6, D6, G6⟩
  have e6 : mRead c5.m true = ([104, 101], false, 0, ⟨⟨#[97]⟩, true, false, ⟨[121], [], false, false⟩, ⟨[], [], false, false⟩⟩) := by rw [M5.out]; rfl
  rw [e6] at hm6 G6 ⊢
  have L6 : Hid (Below b w w6) := L5.out.trans (D6.below N5.out)
  obtain ⟨av, cv, rfl, _, hH6, _⟩ := G6.buf.form
  have hst : (convert 32 9 (.slice av 2 cv)).run Try.prog w6 = _ := str_of w6 av _ cv _ rfl hH6
  have hbs : bstr [104, 101] = ⟨#[104, 101]⟩ := by decide
  rw [hbs] at hst
  clear D6 e6 hm6 G6 hH6 hbs
  go_wp2_with fail
  go_ret
  exact ⟨rfl, by rw [HB.out]; exact L6.out⟩
end Go.Proofs.Ytcbnmoppnoiggaa
