/-
  The sequence of Each handed a closure of the language's own.
-/
import Derived.Test.YtnbhadfhgecajaaEach
namespace Go.Proofs.Ytnbhadfhgecajaa
open Go.RowKit
set_option linter.unusedVariables false

set_option maxRecDepth 100000 in
set_option maxHeartbeats 2000000 in
theorem eachc1 (bf bn bw bm Bn n cv : Nat) (av : Option Addr) (base : Nat) (zs : List Int) (hl : zs.length = n) (hn : n ≤ 1099511627776) (hz : Octets zs) (J Jx : List Told → World → Prop) (W0 : World) (hJa : ∀ pre A B, W0.heap.size ≤ A.heap.size → J pre A → Below A.heap.size A B → J pre B)
    (hY : ∀ pre x W1, J pre W1 → Lies W0.heap.size x W1 → Row1 zs 0 (pre ++ [x]) → W0.heap.size ≤ W1.heap.size → Calls Try.prog 12 #[.int .i64 x.at', .agg #[.int .i64 x.s.op, .int .i64 x.s.x, .int .i64 x.s.y, .slice x.s.d.a x.s.d.n x.s.d.cap], .pointer (some ⟨bf, 0, none⟩), .pointer (some ⟨bn, 0, none⟩), .pointer (some ⟨bw, 0, none⟩), .pointer (some ⟨bm, 0, none⟩)] W1 fun e W' =>
      (e = .returned (.bool true) ∧ J (pre ++ [x]) W' ∧ Keeps Bn (Value.slice av n cv).ownBlock W1 W') ∨ (e = .returned (.bool false) ∧ Jx (pre ++ [x]) W'))
    (hBn : Bn < W0.heap.size) (hcB : W0.cell? ⟨Bn, 0, none⟩ = some (.slice av n cv)) (hown : W0.ownsRow base 5 1 (.slice av n cv) n (vals zs)) (hJ0 : J [] W0) :
    Calls Try.prog 26 #[.func (.func 12) #[] #[.pointer (some ⟨bf, 0, none⟩), .pointer (some ⟨bn, 0, none⟩), .pointer (some ⟨bw, 0, none⟩), .pointer (some ⟨bm, 0, none⟩)], .pointer (some ⟨Bn, 0, none⟩)] W0 fun e W' => (∃ v, e = .returned v) ∧
      ((∃ xs, AllOf zs 0 xs ∧ J xs W') ∨ (∃ pre, Row1 zs 0 pre ∧ Jx pre W')) := by
  go_enter Try.func26, Try.ntmps26
  go_wp2
  go_loopw [3] (fun t wr => ∃ (pre : List Told) (k : Nat), t = .int .i64 k ∧ k ≤ n ∧ Row1 zs 0 pre ∧ lastOf zs 0 pre = k ∧ J pre wr ∧ Keeps Bn (Value.slice av n cv).ownBlock W0 wr) (fun t _ => n - (intOf t).toNat)
  case atStart => exact ⟨[], 0, rfl, by omega, trivial, rfl, hJ0, Keeps.refl _ _ _⟩
  case round =>
    obtain ⟨pre, k, rfl, hk, hrow, hlast, hJp, hbel⟩ := hrel
    have hcB1 : wr.cell? ⟨Bn, 0, none⟩ = some (.slice av n cv) := (World.cell?_of_block (w := W0) (a := ⟨Bn, 0, none⟩) hbel.box).trans hcB
    have hown1 : wr.ownsRow base 5 1 (.slice av n cv) n (vals zs) := own_block hown (fun j hj => hbel.bytes j hj)
    have k0 : (0 : Int) ≤ k := by omega
    have k1 : (k : Int) ≤ n := by omega
    by_cases hkn : k < n
    · obtain ⟨a', c', hv', hBs⟩ := own_bs hown1 hz (by omega)
      cases hv'
      obtain ⟨bb, rfl⟩ : ∃ bb, av = some ⟨bb, 0, none⟩ := by
        rcases hown1.2 with ⟨h, h0⟩ | ⟨g, cp, cur, h, _⟩
        · omega
        · cases h; exact ⟨g, rfl⟩
      have hBk := bs_mid hBs (Nat.le_of_lt hkn)
      have hcv := hBs.fits
      have hk2 : (k : Int) < n := by omega
      go_wp2_with fail
      refine (first_any (some ⟨bb, k, none⟩) (n - k) (cv - k) (zs.drop k) _ hBk (by omega) (by omega)).mono ?_
      rintro e w1 ⟨d, rfl, hdz, hdn, hown5, hb1⟩
      have hIs : IsStep (zs.drop k) ⟨opOf (zs.drop k), (zs.drop k).getD 1 0, (zs.drop k).getD 2 0, d⟩ := ⟨rfl, rfl, rfl, hdz, hdn⟩
      have hT1 : takes (zs.drop k) ≤ n - k := by have := takes_le (zs.drop k); rw [List.length_drop] at this; omega
      have hT2 : 0 < takes (zs.drop k) := takes_pos _ (by rw [List.length_drop]; omega)
      have HLs : ∀ s : St, Hid (lastOf zs 0 (pre ++ [⟨k, s⟩]) = k + takes (zs.drop k)) := fun s => by show _ = _; rw [lastOf_snoc, hlast]
      have HX : ∀ s : St, IsStep (zs.drop k) s → Hid (Row1 zs 0 (pre ++ [⟨k, s⟩])) := fun s hs => Row1_snoc zs 0 pre _ hrow ⟨by rw [hlast]; omega, hlast.symm, by rw [hlast]; exact hs⟩
      obtain ⟨o, ho⟩ : ∃ o, opOf (zs.drop k) = o := ⟨_, rfl⟩
      obtain ⟨xx, hxx⟩ : ∃ o, (zs.drop k).getD 1 0 = o := ⟨_, rfl⟩
      obtain ⟨yy, hyy⟩ : ∃ o, (zs.drop k).getD 2 0 = o := ⟨_, rfl⟩
      obtain ⟨tk, htk⟩ : ∃ o, takes (zs.drop k) = o := ⟨_, rfl⟩
      rw [ho, hxx, hyy] at hIs ⊢
      rw [htk] at hT1 hT2 HLs ⊢
      obtain ⟨da, dn, dc, dzs⟩ := d
      have HX1 := HX _ hIs
      have HL1 := HLs ⟨o, xx, yy, ⟨da, dn, dc, dzs⟩⟩
      have HY : Hid (Calls Try.prog 12 #[.int .i64 k, .agg #[.int .i64 o, .int .i64 xx, .int .i64 yy, .slice da dn dc], .pointer (some ⟨bf, 0, none⟩), .pointer (some ⟨bn, 0, none⟩), .pointer (some ⟨bw, 0, none⟩), .pointer (some ⟨bm, 0, none⟩)] (w1.alloc (.cells #[.int .i64 o, .int .i64 xx, .int .i64 yy, .slice da dn dc] 32)) fun e W' =>
          (e = .returned (.bool true) ∧ J (pre ++ [⟨k, ⟨o, xx, yy, ⟨da, dn, dc, dzs⟩⟩⟩]) W' ∧ Keeps Bn (Value.slice (some ⟨bb, 0, none⟩) n cv).ownBlock (w1.alloc (.cells #[.int .i64 o, .int .i64 xx, .int .i64 yy, .slice da dn dc] 32)) W') ∨ (e = .returned (.bool false) ∧ Jx (pre ++ [⟨k, ⟨o, xx, yy, ⟨da, dn, dc, dzs⟩⟩⟩]) W')) := by
        have hb1a : Below wr.heap.size wr (w1.alloc (.cells #[.int .i64 o, .int .i64 xx, .int .i64 yy, .slice da dn dc] 32)) := hb1.alloc hb1.size _
        exact hY pre ⟨k, ⟨o, xx, yy, ⟨da, dn, dc, dzs⟩⟩⟩ _ (hJa pre wr _ hbel.size hJp hb1a) (own_base (hown5.alloc _) hbel.size) HX1.out (Nat.le_trans hbel.size hb1a.size)
      have HB1 : Hid (Keeps Bn (Value.slice (some ⟨bb, 0, none⟩) n cv).ownBlock W0 (w1.alloc (.cells #[.int .i64 o, .int .i64 xx, .int .i64 yy, .slice da dn dc] 32))) := hbel.trans (Keeps.of_below (hb1.alloc hb1.size _) (Nat.lt_of_lt_of_le hBn hbel.size) (fun b hb => (hown1.lt b hb).2))
      clear hBk hBs hown5 hb1 hY hrow hlast hcB1 HX HLs hIs hdz hdn hown1 ho hxx hyy htk
      go_wp2_with fail
      refine HY.out.mono ?_
      rintro e W3 (⟨rfl, hJ3, hk3⟩ | ⟨rfl, hJx3⟩)
      · go_wp2
        go_roundw
        case rel => exact ⟨pre ++ [⟨k, ⟨o, xx, yy, ⟨da, dn, dc, dzs⟩⟩⟩], k + tk, by go_num, by omega, HX1.out, HL1.out, hJ3, HB1.out.trans hk3⟩
        case measure => simp [intOf]; omega
      · go_wp2
        refine bodyPost_ret (results_none rfl _ _ _) rfl ?_
        exact ⟨⟨_, rfl⟩, .inr ⟨_, HX1.out, hJx3⟩⟩
    · go_wp2
      refine bodyPost_end (results_none rfl _ _ _) rfl ?_
      exact ⟨⟨_, rfl⟩, .inl ⟨pre, ⟨hrow, by rw [hlast]; omega⟩, hJp⟩⟩

set_option maxRecDepth 100000 in
set_option maxHeartbeats 2000000 in
theorem eachc2 (bf bn bw Bn n cv : Nat) (av : Option Addr) (base : Nat) (zs : List Int) (hl : zs.length = n) (hn : n ≤ 1099511627776) (hz : Octets zs) (J Jx : List Told → World → Prop) (W0 : World) (hJa : ∀ pre A B, W0.heap.size ≤ A.heap.size → J pre A → Below A.heap.size A B → J pre B)
    (hY : ∀ pre x W1, J pre W1 → Lies W0.heap.size x W1 → Row1 zs 0 (pre ++ [x]) → W0.heap.size ≤ W1.heap.size → Calls Try.prog 14 #[.int .i64 x.at', .agg #[.int .i64 x.s.op, .int .i64 x.s.x, .int .i64 x.s.y, .slice x.s.d.a x.s.d.n x.s.d.cap], .pointer (some ⟨bf, 0, none⟩), .pointer (some ⟨bn, 0, none⟩), .pointer (some ⟨bw, 0, none⟩)] W1 fun e W' =>
      (e = .returned (.bool true) ∧ J (pre ++ [x]) W' ∧ Keeps Bn (Value.slice av n cv).ownBlock W1 W') ∨ (e = .returned (.bool false) ∧ Jx (pre ++ [x]) W'))
    (hBn : Bn < W0.heap.size) (hcB : W0.cell? ⟨Bn, 0, none⟩ = some (.slice av n cv)) (hown : W0.ownsRow base 5 1 (.slice av n cv) n (vals zs)) (hJ0 : J [] W0) :
    Calls Try.prog 26 #[.func (.func 14) #[] #[.pointer (some ⟨bf, 0, none⟩), .pointer (some ⟨bn, 0, none⟩), .pointer (some ⟨bw, 0, none⟩)], .pointer (some ⟨Bn, 0, none⟩)] W0 fun e W' => (∃ v, e = .returned v) ∧
      ((∃ xs, AllOf zs 0 xs ∧ J xs W') ∨ (∃ pre, Row1 zs 0 pre ∧ Jx pre W')) := by
  go_enter Try.func26, Try.ntmps26
  go_wp2
  go_loopw [3] (fun t wr => ∃ (pre : List Told) (k : Nat), t = .int .i64 k ∧ k ≤ n ∧ Row1 zs 0 pre ∧ lastOf zs 0 pre = k ∧ J pre wr ∧ Keeps Bn (Value.slice av n cv).ownBlock W0 wr) (fun t _ => n - (intOf t).toNat)
  case atStart => exact ⟨[], 0, rfl, by omega, trivial, rfl, hJ0, Keeps.refl _ _ _⟩
  case round =>
    obtain ⟨pre, k, rfl, hk, hrow, hlast, hJp, hbel⟩ := hrel
    have hcB1 : wr.cell? ⟨Bn, 0, none⟩ = some (.slice av n cv) := (World.cell?_of_block (w := W0) (a := ⟨Bn, 0, none⟩) hbel.box).trans hcB
    have hown1 : wr.ownsRow base 5 1 (.slice av n cv) n (vals zs) := own_block hown (fun j hj => hbel.bytes j hj)
    have k0 : (0 : Int) ≤ k := by omega
    have k1 : (k : Int) ≤ n := by omega
    by_cases hkn : k < n
    · obtain ⟨a', c', hv', hBs⟩ := own_bs hown1 hz (by omega)
      cases hv'
      obtain ⟨bb, rfl⟩ : ∃ bb, av = some ⟨bb, 0, none⟩ := by
        rcases hown1.2 with ⟨h, h0⟩ | ⟨g, cp, cur, h, _⟩
        · omega
        · cases h; exact ⟨g, rfl⟩
      have hBk := bs_mid hBs (Nat.le_of_lt hkn)
      have hcv := hBs.fits
      have hk2 : (k : Int) < n := by omega
      go_wp2_with fail
      refine (first_any (some ⟨bb, k, none⟩) (n - k) (cv - k) (zs.drop k) _ hBk (by omega) (by omega)).mono ?_
      rintro e w1 ⟨d, rfl, hdz, hdn, hown5, hb1⟩
      have hIs : IsStep (zs.drop k) ⟨opOf (zs.drop k), (zs.drop k).getD 1 0, (zs.drop k).getD 2 0, d⟩ := ⟨rfl, rfl, rfl, hdz, hdn⟩
      have hT1 : takes (zs.drop k) ≤ n - k := by have := takes_le (zs.drop k); rw [List.length_drop] at this; omega
      have hT2 : 0 < takes (zs.drop k) := takes_pos _ (by rw [List.length_drop]; omega)
      have HLs : ∀ s : St, Hid (lastOf zs 0 (pre ++ [⟨k, s⟩]) = k + takes (zs.drop k)) := fun s => by show _ = _; rw [lastOf_snoc, hlast]
      have HX : ∀ s : St, IsStep (zs.drop k) s → Hid (Row1 zs 0 (pre ++ [⟨k, s⟩])) := fun s hs => Row1_snoc zs 0 pre _ hrow ⟨by rw [hlast]; omega, hlast.symm, by rw [hlast]; exact hs⟩
      obtain ⟨o, ho⟩ : ∃ o, opOf (zs.drop k) = o := ⟨_, rfl⟩
      obtain ⟨xx, hxx⟩ : ∃ o, (zs.drop k).getD 1 0 = o := ⟨_, rfl⟩
      obtain ⟨yy, hyy⟩ : ∃ o, (zs.drop k).getD 2 0 = o := ⟨_, rfl⟩
      obtain ⟨tk, htk⟩ : ∃ o, takes (zs.drop k) = o := ⟨_, rfl⟩
      rw [ho, hxx, hyy] at hIs ⊢
      rw [htk] at hT1 hT2 HLs ⊢
      obtain ⟨da, dn, dc, dzs⟩ := d
      have HX1 := HX _ hIs
      have HL1 := HLs ⟨o, xx, yy, ⟨da, dn, dc, dzs⟩⟩
      have HY : Hid (Calls Try.prog 14 #[.int .i64 k, .agg #[.int .i64 o, .int .i64 xx, .int .i64 yy, .slice da dn dc], .pointer (some ⟨bf, 0, none⟩), .pointer (some ⟨bn, 0, none⟩), .pointer (some ⟨bw, 0, none⟩)] (w1.alloc (.cells #[.int .i64 o, .int .i64 xx, .int .i64 yy, .slice da dn dc] 32)) fun e W' =>
          (e = .returned (.bool true) ∧ J (pre ++ [⟨k, ⟨o, xx, yy, ⟨da, dn, dc, dzs⟩⟩⟩]) W' ∧ Keeps Bn (Value.slice (some ⟨bb, 0, none⟩) n cv).ownBlock (w1.alloc (.cells #[.int .i64 o, .int .i64 xx, .int .i64 yy, .slice da dn dc] 32)) W') ∨ (e = .returned (.bool false) ∧ Jx (pre ++ [⟨k, ⟨o, xx, yy, ⟨da, dn, dc, dzs⟩⟩⟩]) W')) := by
        have hb1a : Below wr.heap.size wr (w1.alloc (.cells #[.int .i64 o, .int .i64 xx, .int .i64 yy, .slice da dn dc] 32)) := hb1.alloc hb1.size _
        exact hY pre ⟨k, ⟨o, xx, yy, ⟨da, dn, dc, dzs⟩⟩⟩ _ (hJa pre wr _ hbel.size hJp hb1a) (own_base (hown5.alloc _) hbel.size) HX1.out (Nat.le_trans hbel.size hb1a.size)
      have HB1 : Hid (Keeps Bn (Value.slice (some ⟨bb, 0, none⟩) n cv).ownBlock W0 (w1.alloc (.cells #[.int .i64 o, .int .i64 xx, .int .i64 yy, .slice da dn dc] 32))) := hbel.trans (Keeps.of_below (hb1.alloc hb1.size _) (Nat.lt_of_lt_of_le hBn hbel.size) (fun b hb => (hown1.lt b hb).2))
      clear hBk hBs hown5 hb1 hY hrow hlast hcB1 HX HLs hIs hdz hdn hown1 ho hxx hyy htk
      go_wp2_with fail
      refine HY.out.mono ?_
      rintro e W3 (⟨rfl, hJ3, hk3⟩ | ⟨rfl, hJx3⟩)
      · go_wp2
        go_roundw
        case rel => exact ⟨pre ++ [⟨k, ⟨o, xx, yy, ⟨da, dn, dc, dzs⟩⟩⟩], k + tk, by go_num, by omega, HX1.out, HL1.out, hJ3, HB1.out.trans hk3⟩
        case measure => simp [intOf]; omega
      · go_wp2
        refine bodyPost_ret (results_none rfl _ _ _) rfl ?_
        exact ⟨⟨_, rfl⟩, .inr ⟨_, HX1.out, hJx3⟩⟩
    · go_wp2
      refine bodyPost_end (results_none rfl _ _ _) rfl ?_
      exact ⟨⟨_, rfl⟩, .inl ⟨pre, ⟨hrow, by rw [hlast]; omega⟩, hJp⟩⟩
end Go.Proofs.Ytnbhadfhgecajaa
