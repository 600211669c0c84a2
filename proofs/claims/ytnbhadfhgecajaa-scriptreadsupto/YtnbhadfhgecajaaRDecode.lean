/-
  The contract of the document's own Decode.
-/
import Derived.Test.YtnbhadfhgecajaaMath
import Derived.Deep.RegionHeld3
import Derived.Deep.RegionLaw
namespace Go.Proofs.Ytnbhadfhgecajaa
open Go.RowKit
set_option linter.unusedVariables false

theorem Try.inf34 : (Try.prog.info? 34).map (fun i => (i.zero, i.size, i.bytes)) = some (some (.agg #[.int .i64 0, .int .i64 0, .int .i64 0, .slice none 0 0, .int .i64 0]), 5, 56) := by kernel_rfl

set_option maxHeartbeats 400000 in
theorem rat_past (a : Option Addr) (n cap i : Nat) (w : World) (hi : ¬ i < n) : Calls Try.prog 24 #[.slice a n cap, .int .i64 i] w fun e w' => e = .returned (.int .i64 0) ∧ w' = w := by
  go_enter Try.func24, Try.ntmps24
  go_wp2
  go_ret
  exact ⟨rfl, rfl⟩
set_option maxHeartbeats 400000 in
theorem rat_in (b off n cap i : Nat) (z : Int) (w : World) (hi : i < n) (hc : w.cell? ⟨b, off + i, none⟩ = some (.int .u8 z)) (h0 : 0 ≤ z) (h1 : z ≤ 255) : Calls Try.prog 24 #[.slice (some ⟨b, off, none⟩) n cap, .int .i64 i] w fun e w' => e = .returned (.int .i64 z) ∧ w' = w := by
  have i0 : (0 : Int) ≤ i := by omega
  have i1 : (i : Int) < n := by omega
  go_enter Try.func24, Try.ntmps24
  go_wp2
  go_ret
  exact ⟨rfl, rfl⟩
/-- The byte at a place, nought behind the end. -/
theorem rat_any (b off n cap i : Nat) (zs : List Int) (w : World) (hl : zs.length = n) (hc : ∀ j, j < n → w.cell? ⟨b, off + j, none⟩ = some (.int .u8 (zs.getD j 0))) (hz : Octets zs) : Calls Try.prog 24 #[.slice (some ⟨b, off, none⟩) n cap, .int .i64 i] w fun e w' => e = .returned (.int .i64 (zs.getD i 0)) ∧ w' = w := by
  by_cases hi : i < n
  · exact rat_in b off n cap i _ w hi (hc i hi) (hz i).1 (hz i).2
  · have : zs.getD i 0 = 0 := by simp [List.getD, List.getElem?_eq_none (show zs.length ≤ i by omega)]
    rw [this]
    exact rat_past _ n cap i w hi

/-- The cells of a step of the document's. -/
def Told.row5 (x : Told) : List Value := [.int .i64 x.s.op, .int .i64 x.s.x, .int .i64 x.s.y, x.s.d.val, .int .i64 x.at']
/-- What the outer loop has gathered. -/
structure RG (w W : World) (zs : List Int) (pre : List Told) (i : Nat) (v : Value) : Prop where
  row : Row1 zs 0 pre
  last : lastOf zs 0 pre = min i zs.length
  len : pre.length ≤ i
  own : W.ownsRow w.heap.size 34 5 v pre.length (pre.flatMap Told.row5)
  lies : ∀ x ∈ pre, Lies w.heap.size x W
  below : Below w.heap.size w W
theorem row5_one' (x : Told) : ∀ u ∈ x.row5, u.oneCell' = true := by
  intro u hu
  simp [Told.row5] at hu
  rcases hu with rfl | rfl | rfl | rfl | rfl <;> rfl
/-- What of the outer loop's gathering a round leaves alone. -/
structure RH (w W : World) (pre : List Told) (v : Value) : Prop where
  own : W.ownsRow w.heap.size 34 5 v pre.length (pre.flatMap Told.row5)
  lies : ∀ x ∈ pre, Lies w.heap.size x W
  below : Below w.heap.size w W
theorem RH.later {w W W' : World} {pre : List Told} {v : Value} (h : RH w W pre v) (hb : Below W.heap.size W W') : RH w W' pre v :=
  ⟨own_blk' h.own (fun k hk => hb.block k (h.own.lt k hk).2), fun x hx => own_block (h.lies x hx) (fun k hk => hb.block k ((h.lies x hx).lt k hk).2), h.below.trans (hb.mono h.below.size)⟩
theorem rg_snoc {w W w2 : World} {zs : List Int} {pre : List Told} {i i' : Nat} {v : Value} {s : St} {g c : Nat} {o : Obj} (hrow : Row1 zs 0 pre) (hlast : lastOf zs 0 pre = min i zs.length) (hlen : pre.length ≤ i) (hin : i < zs.length) (hs : IsStep (zs.drop i) s) (hi' : min i' zs.length = i + takes (zs.drop i)) (hle : i + 1 ≤ i')
    (hH : RH w W pre v) (hx : Lies w.heap.size ⟨i, s⟩ W) (hown : w2.ownsRow w.heap.size 34 5 (.slice (some ⟨g, 0, none⟩) (pre.length + 1) c) (pre.length + 1) (pre.flatMap Told.row5 ++ Told.row5 ⟨i, s⟩)) (hg : (W.alloc o).grownBy w2 v.ownBlock) :
    RG w w2 zs (pre ++ [⟨i, s⟩]) i' (.slice (some ⟨g, 0, none⟩) (pre.length + 1) c) := by
  have hl : lastOf zs 0 pre = i := by rw [hlast]; omega
  have lies : ∀ y, Lies w.heap.size y W → Lies w.heap.size y w2 := fun y hy => own_block hy (fun k hk => by
    have h1 := hy.lt k hk
    exact (hg.block k (by simp; omega) (own_apart' hy hH.own (by decide) k hk)).trans (Go.heap_alloc_old W _ k h1.2))
  refine ⟨Row1_snoc zs 0 pre _ hrow ⟨by rw [hl]; exact hin, hl.symm, by rw [hl]; exact hs⟩, by rw [lastOf_snoc, hl, hi'], by simp; omega, ?_, ?_, ?_⟩
  · rw [List.length_append, List.flatMap_append]
    have e : [(⟨i, s⟩ : Told)].flatMap Told.row5 = Told.row5 ⟨i, s⟩ := by simp
    rw [e]; exact hown
  · intro y hy
    rcases List.mem_append.1 hy with h | h
    · exact lies y (hH.lies y h)
    · obtain rfl := List.mem_singleton.1 h
      exact lies _ hx
  · exact (hH.below.alloc hH.below.size _).grown hg (by have := hH.below.size; simp; omega) (fun k h => (hH.own.lt k h).1)
theorem five_cells {w2 : World} {m : Nat} {v0 v1 v2 v3 v4 : Value} (h : w2.heap[m]? = some (.cells #[v0, v1, v2, v3, v4] 34 (0, 0))) :
    w2.cell? ⟨m, 0, none⟩ = some v0 ∧ w2.cell? ⟨m, 1, none⟩ = some v1 ∧ w2.cell? ⟨m, 2, none⟩ = some v2 ∧ w2.cell? ⟨m, 3, none⟩ = some v3 ∧ w2.cell? ⟨m, 4, none⟩ = some v4 := by
  refine ⟨?_, ?_, ?_, ?_, ?_⟩ <;> simp [World.cell?, h]
theorem getD_drop (zs : List Int) (i j : Nat) : (zs.drop i).getD j 0 = zs.getD (i + j) 0 := by simp [List.getD]

theorem step_append_own' {P : Program} {ops : Array Oper} {o : Oper} {a : Act} {w : World} {K : Act → World → Prop} {Q : Exit → Act → World → Prop} {E : Prop}
    (hg : o.guard = none) (s x : Operand) (t : TypeId) (hop : o.op = Op.call { callee := Callee.builtin Builtin.append, args := #[s, x], argTypes := #[t, t] })
    (base : Nat) (e : TypeId) (i : TypeInfo) (z : Value) (size bytes : Nat) (h1 : P.underlying t = some (.slice e)) (h2 : P.info? e = some i) (h3 : i.zero = some z) (h4 : i.size = size) (h5 : i.bytes = bytes) (h6 : z.cells.size = size) (h7 : 0 < size)
    (v : Value) (n : Nat) (xs : List Value) (hs : a.eval s = v) (hown : w.ownsRow base e size v n xs)
    (ad : Addr) (m c : Nat) (news : List Value) (hx : a.eval x = .slice (some ad) m c) (hn : news.length = m * size) (hc : ∀ j u, news[j]? = some u → w.cell? (ad.add j) = some u) (h1c : ∀ u ∈ news, u.oneCell' = true)
    (b1 : n + m ≤ maxLen) (b2 : (n + m) * bytes ≤ 140737488355328) (hb : base ≤ w.heap.size)
    (hK : ∀ v' w', w'.ownsRow base e size v' (n + m) (xs ++ news) → w.grownBy w' v.ownBlock → K (a.put o.dst v') w') :
    if Region.wanted o (yielded ops a.tmps) = true then Oper.wp P o a w K Q else E := by
  have hw : Region.wanted o (yielded ops a.tmps) = true := by simp [Region.wanted, hg]
  rw [if_pos hw]
  obtain ⟨v', w', hrun, r1, r2, _⟩ := run_append_own (P := P) w base t o.type e i z size bytes h1 h2 h3 h4 h5 h6 h7 v n xs hown ad m c news hn hc h1c b1 b2 hb
  unfold Oper.wp
  simp [execOp, hop, resolve, invoke, builtin, hs, hx, hrun, Result.andThen]
  exact hK v' w' r1 r2

/-- Within the inner loop: t bytes of the data are there. -/
def RI (w W : World) (zs : List Int) (pre : List Told) (v : Value) (m i t : Nat) (o xx yy : Int) : Prop :=
  RH w W pre v ∧ ∃ a c, W.heap[m]? = some (.cells #[.int .i64 o, .int .i64 xx, .int .i64 yy, .slice a t c, .int .i64 i] 34 (0, 0)) ∧ W.ownsRow (m + 1) 5 1 (.slice a t c) t (vals ((zs.drop (i + 5)).take t))
theorem ri_next {w W w3 : World} {zs : List Int} {pre : List Told} {v : Value} {m i t : Nat} {o xx yy : Int} {a a' : Option Addr} {c c' : Nat} {ob : Obj} (hm : w.heap.size ≤ m) (hvm : ∀ k, v.ownBlock = some k → k < m) (hlt : i + 5 + t < zs.length)
    (hH : RH w W pre v) (hb : W.heap[m]? = some (.cells #[.int .i64 o, .int .i64 xx, .int .i64 yy, .slice a t c, .int .i64 i] 34 (0, 0))) (hd : W.ownsRow (m + 1) 5 1 (.slice a t c) t (vals ((zs.drop (i + 5)).take t)))
    (hown : w3.ownsRow (m + 1) 5 1 (.slice a' (t + 1) c') (t + 1) (vals ((zs.drop (i + 5)).take t) ++ vals [zs.getD (i + 5 + t) 0])) (hg : (W.alloc ob).drew.grownBy w3 (Value.slice a t c).ownBlock) (hpm : ∀ x ∈ pre, ∀ k, x.s.d.val.ownBlock = some k → k < m) :
    (w3.cell? ⟨m, 3, none⟩ = some (.slice a t c) ∧ w3.frozen? ⟨m, 3, none⟩ = false) ∧ RI w (w3.setCell ⟨m, 3, none⟩ (.slice a' (t + 1) c')) zs pre v m i (t + 1) o xx yy := by
  have same : ∀ k, k < W.heap.size → some k ≠ (Value.slice a t c).ownBlock → w3.heap[k]? = W.heap[k]? := fun k hk hne =>
    (hg.block k (by simp [World.drew]; omega) hne).trans (Go.heap_alloc_old W _ k hk)
  have hmW := (Array.getElem?_eq_some_iff.1 hb).1
  have hm3 : w3.heap[m]? = some (.cells #[.int .i64 o, .int .i64 xx, .int .i64 yy, .slice a t c, .int .i64 i] 34 (0, 0)) := (same m hmW (row_type hd hb (by decide))).trans hb
  have hv3 : w3.ownsRow w.heap.size 34 5 v pre.length (pre.flatMap Told.row5) := own_blk' hH.own (fun k hk => same k (hH.own.lt k hk).2 (own_apart' hH.own hd (by decide) k hk))
  have hB3 : Below w.heap.size w w3 := ((hH.below.alloc hH.below.size ob).drew).grown hg (by have := hH.below.size; simp [World.drew]; omega) (fun k h => by have := (hd.lt k h).1; omega)
  refine ⟨⟨by simp [World.cell?, hm3], by simp [World.frozen?, hm3]⟩, ⟨?_, ?_, ?_⟩, a', c', ?_, ?_⟩
  · exact own_blk' hv3 (fun k hk => Below.heap_setCell _ _ _ _ (by have := hvm k hk; show k ≠ m; omega))
  · intro x hx
    have hl := hH.lies x hx
    refine own_block hl (fun k hk => ?_)
    obtain ⟨cur, hc5⟩ := own_cells hl k hk
    have hkm : k ≠ m := fun e => by subst e; rw [hc5] at hb; cases hb
    exact (Below.heap_setCell _ _ _ _ hkm).trans (same k (hl.lt k hk).2 (fun e => by have h1 := hpm x hx k hk; have h2 := (hd.lt k e.symm).1; omega))
  · exact hB3.setCell (p := ⟨m, 3, none⟩) hm _
  · rw [heap_setCell_same _ _ _ _ _ _ hm3]; rfl
  · have e : (zs.drop (i + 5)).take (t + 1) = (zs.drop (i + 5)).take t ++ [zs.getD (i + 5 + t) 0] := by
      have h1 : t < (zs.drop (i + 5)).length := by rw [List.length_drop]; omega
      rw [List.take_succ_eq_append_getElem h1]
      congr 1
      simp [List.getD, show i + 5 + t < zs.length by omega]
    rw [e, vals_append]
    refine own_block hown (fun k hk => Below.heap_setCell _ _ _ _ ?_)
    intro e'
    simp only at e'
    subst e'
    obtain ⟨cur, hc5⟩ := own_cells hown k hk
    rw [hm3] at hc5
    cases hc5

set_option maxRecDepth 100000 in
set_option maxHeartbeats 4000000 in
theorem rdecode_some (b off n cap : Nat) (zs : List Int) (w : World) (hl : zs.length = n) (hc : ∀ j, j < n → w.cell? ⟨b, off + j, none⟩ = some (.int .u8 (zs.getD j 0))) (hz : Octets zs) (hn : n ≤ 1099511627776) (hb : b < w.heap.size) :
    Calls Try.prog 8 #[.slice (some ⟨b, off, none⟩) n cap] w fun e w' => ∃ xs v, AllOf zs 0 xs ∧ e = .returned v ∧ w'.ownsRow w.heap.size 34 5 v xs.length (xs.flatMap Told.row5) ∧ (∀ x ∈ xs, Lies w.heap.size x w') ∧ Below w.heap.size w w' := by
  obtain ⟨i34, hi34, hz340, hz341, hz342⟩ := info_parts Try.inf34
  obtain ⟨i5, hi5, hz50, hz51, hz52⟩ := info_parts Try.info5
  go_enter Try.func8, Try.ntmps8
  go_wp2
  go_loopw [3, 4] (fun v t wr => ∃ (pre : List Told) (i : Nat), i ≤ 1099511700000 ∧ t = .int .i64 i ∧ RG w wr zs pre i v) (fun _ t _ => n - (intOf t).toNat)
  case atStart => exact ⟨[], 0, by omega, rfl, trivial, by simp [lastOf], by simp, World.ownsRow_nil _ _ _ _, (fun x hx => by cases hx), Below.refl _ _⟩
  case round =>
    obtain ⟨pre, i, hi0, rfl, hG⟩ := hrel
    by_cases hin : i < n
    · have hcr : ∀ j, j < n → wr.cell? ⟨b, off + j, none⟩ = some (.int .u8 (zs.getD j 0)) := fun j hj => (hG.below.cell (p := ⟨b, off + j, none⟩) hb).trans (hc j hj)
      have HCr : Hid (∀ j, j < n → wr.cell? ⟨b, off + j, none⟩ = some (.int .u8 (zs.getD j 0))) := hcr
      clear hcr
      go_wp2_with fail
      refine (rat_any b off n cap i zs _ hl HCr.out hz).mono ?_
      rintro e w1 ⟨rfl, hw1⟩
      have hw1 := hw1.symm
      subst hw1
      have z0 := hz i
      obtain ⟨o, ho⟩ : ∃ o, zs.getD i 0 = o := ⟨_, rfl⟩
      rw [ho] at z0 ⊢
      obtain ⟨z01, z02⟩ := z0
      have HO : Hid (zs.getD i 0 = o) := ho
      clear ho
      go_wp2_with fail
      have e1 : (i : Int) + 1 = ((i + 1 : Nat) : Int) := by omega
      rw [e1]
      clear e1
      refine (rat_any b off n cap (i + 1) zs _ hl HCr.out hz).mono ?_
      rintro e w1 ⟨rfl, hw1⟩
      have hw1 := hw1.symm
      subst hw1
      obtain ⟨xx, hxx⟩ : ∃ o, zs.getD (i + 1) 0 = o := ⟨_, rfl⟩
      rw [hxx]
      have HX : Hid (zs.getD (i + 1) 0 = xx) := hxx
      clear hxx
      go_wp2_with fail
      have e1 : (i : Int) + 2 = ((i + 2 : Nat) : Int) := by omega
      rw [e1]
      clear e1
      refine (rat_any b off n cap (i + 2) zs _ hl HCr.out hz).mono ?_
      rintro e w1 ⟨rfl, hw1⟩
      have hw1 := hw1.symm
      subst hw1
      obtain ⟨yy, hyy⟩ : ∃ o, zs.getD (i + 2) 0 = o := ⟨_, rfl⟩
      rw [hyy]
      have HY : Hid (zs.getD (i + 2) 0 = yy) := hyy
      clear hyy
      go_wp2_with fail
      obtain ⟨wb, hwb⟩ : ∃ wb, wr.alloc (Obj.cells #[.int .i64 (o % 16), .int .i64 xx, .int .i64 yy, .slice none 0 0, .int .i64 i] 34) = wb := ⟨_, rfl⟩
      have hob : wb.heap[wr.heap.size]? = some (Obj.cells #[.int .i64 (o % 16), .int .i64 xx, .int .i64 yy, .slice none 0 0, .int .i64 i] 34 (0, 0)) := by rw [← hwb]; exact heap_alloc_new _ _
      have hbb : Below wr.heap.size wr wb := by rw [← hwb]; exact (Below.refl _ _).alloc (Nat.le_refl _) _
      have hlb : wr.heap.size < wb.heap.size := by rw [← hwb]; simp
      rw [hwb]
      have HOb : Hid (wb.heap[wr.heap.size]? = some (Obj.cells #[.int .i64 (o % 16), .int .i64 xx, .int .i64 yy, .slice none 0 0, .int .i64 i] 34 (0, 0))) := hob
      have HH : Hid (RH w wb pre u3) := RH.later ⟨hG.own, hG.lies, hG.below⟩ hbb
      have HRow : Hid (Row1 zs 0 pre) := hG.row
      have HLast : Hid (lastOf zs 0 pre = min i zs.length) := hG.last
      have hlen := hG.len
      have hpn : pre.length ≤ 1099511700000 := by omega
      have hwrs : w.heap.size ≤ wr.heap.size := hG.below.size
      have HVm0 : ∀ k, u3.ownBlock = some k → k < wr.heap.size := fun k hk => (hG.own.lt k hk).2
      have HPm0 : ∀ x ∈ pre, ∀ k, x.s.d.val.ownBlock = some k → k < wr.heap.size := fun x hx k hk => ((hG.lies x hx).lt k hk).2
      have HOp : Hid (opOf (zs.drop i) = o % 16) := by show opOf _ = _; unfold opOf; rw [getD_drop, Nat.add_zero, HO.out]
      have HX1 : Hid ((zs.drop i).getD 1 0 = xx) := by show _ = xx; rw [getD_drop]; exact HX.out
      have HY1 : Hid ((zs.drop i).getD 2 0 = yy) := by show _ = yy; rw [getD_drop]; exact HY.out
      obtain ⟨c0, c1, c2, c3, c4⟩ := five_cells hob
      clear hwb hob hG
      by_cases hcar : carries (o % 16)
      · refine (rcarries_yes _ _ hcar).mono ?_
        rintro e w1 ⟨rfl, hw1⟩
        have hw1 := hw1.symm
        subst hw1
        have HCar : Hid (carries (o % 16)) := hcar
        clear hcar
        have HCb : Hid (∀ j, j < n → wb.cell? ⟨b, off + j, none⟩ = some (.int .u8 (zs.getD j 0))) := fun j hj => (hbb.cell (p := ⟨b, off + j, none⟩) (by show b < wr.heap.size; omega)).trans (HCr.out j hj)
        go_wp2_with fail
        have e1 : (i : Int) + 3 = ((i + 3 : Nat) : Int) := by omega
        rw [e1]
        clear e1
        refine (rat_any b off n cap (i + 3) zs _ hl HCb.out hz).mono ?_
        rintro e w1 ⟨rfl, hw1⟩
        have hw1 := hw1.symm
        subst hw1
        have z3b := hz (i + 3)
        have z4b := hz (i + 4)
        obtain ⟨z3, hz3⟩ : ∃ o, zs.getD (i + 3) 0 = o := ⟨_, rfl⟩
        obtain ⟨z4, hz4⟩ : ∃ o, zs.getD (i + 4) 0 = o := ⟨_, rfl⟩
        rw [hz3] at z3b ⊢
        rw [hz4] at z4b
        obtain ⟨z31, z32⟩ := z3b
        obtain ⟨z41, z42⟩ := z4b
        have HZ3 : Hid (zs.getD (i + 3) 0 = z3) := hz3
        have HZ4 : Hid (zs.getD (i + 4) 0 = z4) := hz4
        clear hz3 hz4
        go_wp2_with fail
        have e1 : (i : Int) + 3 + 1 = ((i + 4 : Nat) : Int) := by omega
        rw [e1]
        clear e1
        refine (rat_any b off n cap (i + 4) zs _ hl HCb.out hz).mono ?_
        rintro e w1 ⟨rfl, hw1⟩
        have hw1 := hw1.symm
        subst hw1
        rw [HZ4.out]
        obtain ⟨S, hS⟩ : ∃ S : Nat, z3 + 256 * z4 = (S : Int) := ⟨(z3 + 256 * z4).toNat, by omega⟩
        have HS : Hid (S = z3.toNat + 256 * z4.toNat) := by show S = _; omega
        have hS6 : S ≤ 65535 := by omega
        have HVm : Hid (∀ k, u3.ownBlock = some k → k < wr.heap.size) := HVm0
        have HPm : Hid (∀ x ∈ pre, ∀ k, x.s.d.val.ownBlock = some k → k < wr.heap.size) := HPm0
        go_wp2_with fail
        clear hS
        have e1 : (i : Int) + 3 + 2 = ((i + 5 : Nat) : Int) := by omega
        rw [e1]
        clear e1
        obtain ⟨m, hm⟩ : ∃ m, wr.heap.size = m := ⟨_, rfl⟩
        rw [hm] at HOb HVm HPm hwrs hlb c0 c1 c2 c3 c4 ⊢
        clear hm HVm0 HPm0 c0 c1 c2 c3 c4
        go_loopw [4, 7] (fun t4 t7 W => ∃ t : Nat, t ≤ S ∧ (t = 0 ∨ i + 5 + t ≤ n) ∧ t4 = .int .i64 ((i + 5 + t : Nat) : Int) ∧ t7 = .int .i64 t ∧ RI w W zs pre u3 m i t (o % 16) xx yy) (fun _ t7 _ => S - (intOf t7).toNat)
        case atStart => exact ⟨0, by omega, .inl rfl, rfl, rfl, HH.out, none, 0, HOb.out, World.ownsRow_nil _ _ _ _⟩
        case round =>
          obtain ⟨t, htS, htn, rfl, rfl, hH, da, dc, hmb, hdo⟩ := hrel
          obtain ⟨d0, d1, d2, d3, d4⟩ := five_cells hmb
          have hBr := hH.below
          by_cases hgo : t < S ∧ i + 5 + t < n
          · obtain ⟨hg1, hg2⟩ := hgo
            have hcr : wr.cell? ⟨b, off + (i + 5 + t), none⟩ = some (.int .u8 (zs.getD (i + 5 + t) 0)) := (hBr.cell (p := ⟨b, _, none⟩) hb).trans (hc _ hg2)
            obtain ⟨z, hzz⟩ : ∃ z, zs.getD (i + 5 + t) 0 = z := ⟨_, rfl⟩
            rw [hzz] at hcr
            have HZ : Hid (zs.getD (i + 5 + t) 0 = z) := hzz
            clear hzz
            obtain ⟨q, hq⟩ : ∃ q, i + 5 + t = q := ⟨_, rfl⟩
            have HQ : Hid (i + 5 + t = q) := hq
            have HZq : Hid (zs.getD q 0 = z) := by show zs.getD q 0 = z; rw [← hq]; exact HZ.out
            rw [hq] at hg2 hcr ⊢
            clear hq
            have q0 : (0 : Int) ≤ q := by omega
            have q1 : (q : Int) < n := by omega
            have HDo : Hid ((wr.alloc (.cells #[.int .u8 z] 5)).drew.ownsRow (m + 1) 5 1 (.slice da t dc) t (vals ((zs.drop (i + 5)).take t))) := own_block hdo (fun k hk => Go.heap_alloc_old wr _ k (hdo.lt k hk).2)
            have HNW : Hid (∀ j u, (vals [z])[j]? = some u → (wr.alloc (.cells #[.int .u8 z] 5)).drew.cell? ((⟨wr.heap.size, 0, none⟩ : Addr).add j) = some u) := World.news_of_block (w := (wr.alloc (.cells #[.int .u8 z] 5)).drew) (heap_alloc_new wr _)
            have hszm : m + 1 ≤ (wr.alloc (.cells #[.int .u8 z] 5)).drew.heap.size := by have := (Array.getElem?_eq_some_iff.1 hmb).1; simp [World.drew]; omega
            have HHr : Hid (RH w wr pre u3) := hH
            have HMb : Hid (wr.heap[m]? = some (.cells #[.int .i64 (o % 16), .int .i64 xx, .int .i64 yy, .slice da t dc, .int .i64 i] 34 (0, 0))) := hmb
            have HDr : Hid (wr.ownsRow (m + 1) 5 1 (.slice da t dc) t (vals ((zs.drop (i + 5)).take t))) := hdo
            have hmw : m < wr.heap.size := (Array.getElem?_eq_some_iff.1 hmb).1
            have d3' : (wr.alloc (.cells #[.int .u8 z] 5)).cell? ⟨m, 3, none⟩ = some (.slice da t dc) := by
              have h1 := (Go.heap_alloc_old wr (.cells #[.int .u8 z] 5) m hmw).trans hmb
              simp [World.cell?, h1]
            clear hH hmb hdo hBr
            go_wp2_with fail
            go_region_law (refine step_append_own' rfl (.tmp 54) (.tmp 59) 22 rfl (m + 1) 5 i5 (.int .u8 0) 1 1 Try.underlying22 hi5 hz50 hz51 hz52 rfl (by decide) (.slice da t dc) t (vals ((zs.drop (i + 5)).take t)) rfl HDo.out ⟨wr.heap.size, 0, none⟩ 1 1 (vals [z]) rfl rfl HNW.out (vals_one _) (by unfold maxLen; omega) (by omega) hszm ?_; intro v' w3 hown3 hgrow3; obtain ⟨g3, c3', rfl, _⟩ := hown3.form (by omega); obtain ⟨⟨r1, r2⟩, HRI⟩ := ri_next hwrs HVm.out (by rw [HQ.out, hl]; exact hg2) HHr.out HMb.out HDr.out (by rw [HQ.out, HZq.out]; exact hown3) hgrow3 HPm.out; clear hown3 hgrow3)
            all_goals
              go_wp2
              go_roundw
              case rel =>
                repeat apply Exists.intro
                exact ⟨⟨t + 1, by omega, .inr (by have := HQ.out; omega), (by have := HQ.out; congr 1; omega), (by go_num), HRI⟩, rfl⟩
              case measure => simp [intOf]; omega
          · have hst : ¬ t < S ∨ (t < S ∧ ¬ i + 5 + t < n) := by omega
            have hsz : sizeOf' (zs.drop i) = t := by
              unfold sizeOf'
              rw [getD_drop, getD_drop, HZ3.out, HZ4.out, List.length_drop, hl]
              have := HS.out
              omega
            have hdd : dataOf (zs.drop i) = (zs.drop (i + 5)).take t := by
              unfold dataOf; rw [HOp.out, if_pos HCar.out, hsz, List.drop_drop]
            have hdl : ((zs.drop (i + 5)).take t).length = t := by rw [List.length_take, List.length_drop, hl]; omega
            have HIs : Hid (IsStep (zs.drop i) ⟨o % 16, xx, yy, ⟨da, t, dc, (zs.drop (i + 5)).take t⟩⟩) := ⟨HOp.out.symm, HX1.out.symm, HY1.out.symm, hdd.symm, by rw [hdd, hdl]⟩
            have HT : Hid (min (i + 5 + t) zs.length = i + takes (zs.drop i)) := by
              show _ = _
              unfold takes; rw [HOp.out, if_pos HCar.out, hsz, List.length_drop, hl]; omega
            have HNW : Hid (∀ j u, (Told.row5 ⟨i, ⟨o % 16, xx, yy, ⟨da, t, dc, (zs.drop (i + 5)).take t⟩⟩⟩)[j]? = some u → (wr.alloc (.cells #[.int .i64 (o % 16), .int .i64 xx, .int .i64 yy, .slice da t dc, .int .i64 i] 34)).cell? ((⟨wr.heap.size, 0, none⟩ : Addr).add j) = some u) := World.news_of_block (heap_alloc_new wr _)
            have HL5 : Hid (Lies w.heap.size ⟨i, ⟨o % 16, xx, yy, ⟨da, t, dc, (zs.drop (i + 5)).take t⟩⟩⟩ wr) := own_base hdo (by omega)
            have HHr : Hid (RH w wr pre u3) := hH
            have hws : w.heap.size ≤ wr.heap.size := hBr.size
            obtain ⟨q, hq⟩ : ∃ q, i + 5 + t = q := ⟨_, rfl⟩
            have HQ : Hid (i + 5 + t = q) := hq
            have hqb : q ≤ 1099511700000 := by omega
            have hst' : ¬ t < S ∨ (t < S ∧ ¬ q < n) := by omega
            have hqi : i < q := by omega
            rw [hq] at HT ⊢
            clear hq hst hsz hdd hdl hH hmb hdo hBr hgo htn
            rcases hst' with h1 | ⟨h1, h2⟩
            all_goals
              go_wp2_with (at_builtin; refine wpList_append_form _ rfl (.tmp 64) (.tmp 66) 23 rfl w.heap.size 34 i34 _ 5 56 Try.underlying23 hi34 hz340 hz341 hz342 rfl (by decide) u3 pre.length (pre.flatMap Told.row5) rfl (HHr.out.own.alloc _) ⟨wr.heap.size, 0, none⟩ 1 1 (Told.row5 ⟨i, ⟨o % 16, xx, yy, ⟨da, t, dc, (zs.drop (i + 5)).take t⟩⟩⟩) rfl rfl HNW.out (row5_one' _) (by omega) (by unfold maxLen; omega) (by omega) (by simp; omega) ?_; intro g2 c2' w2 hown2 hgrow2; have HR := rg_snoc HRow.out HLast.out hlen (by omega) HIs.out HT.out (by omega) HHr.out HL5.out hown2 hgrow2; clear hown2 hgrow2)
              go_roundw
              case rel => exact ⟨_, q, hqb, rfl, HR⟩
              case measure => simp [intOf]; omega
      · refine (rcarries_no _ _ hcar).mono ?_
        rintro e w1 ⟨rfl, hw1⟩
        have hw1 := hw1.symm
        subst hw1
        have HIs : Hid (IsStep (zs.drop i) ⟨o % 16, xx, yy, ⟨none, 0, 0, []⟩⟩) := by
          have hd : dataOf (zs.drop i) = [] := by unfold dataOf; rw [HOp.out, if_neg hcar]
          exact ⟨HOp.out.symm, HX1.out.symm, HY1.out.symm, hd.symm, by rw [hd]; rfl⟩
        have HT : Hid (min (i + 3) zs.length = i + takes (zs.drop i)) := by
          show _ = _
          unfold takes; rw [HOp.out, if_neg hcar, List.length_drop]; omega
        have HNW : Hid (∀ j u, (Told.row5 ⟨i, ⟨o % 16, xx, yy, ⟨none, 0, 0, []⟩⟩⟩)[j]? = some u → (wb.alloc (.cells #[.int .i64 (o % 16), .int .i64 xx, .int .i64 yy, .slice none 0 0, .int .i64 i] 34)).cell? ((⟨wb.heap.size, 0, none⟩ : Addr).add j) = some u) := World.news_of_block (heap_alloc_new wb _)
        clear hcar
        go_wp2_with (at_builtin; refine wpList_append_form _ rfl (.tmp 64) (.tmp 66) 23 rfl w.heap.size 34 i34 _ 5 56 Try.underlying23 hi34 hz340 hz341 hz342 rfl (by decide) u3 pre.length (pre.flatMap Told.row5) rfl (HH.out.own.alloc _) ⟨wb.heap.size, 0, none⟩ 1 1 (Told.row5 ⟨i, ⟨o % 16, xx, yy, ⟨none, 0, 0, []⟩⟩⟩) rfl rfl HNW.out (row5_one' _) (by omega) (by unfold maxLen; omega) (by omega) (by simp; omega) ?_; intro g2 c2' w2 hown2 hgrow2; have HR := rg_snoc HRow.out HLast.out hlen (by omega) HIs.out HT.out (by omega) HH.out (World.ownsRow_nil _ _ _ _) hown2 hgrow2; clear hown2 hgrow2)
        go_roundw
        case rel => exact ⟨_, i + 3, by omega, by go_num, HR⟩
        case measure => simp [intOf]; omega
    · go_wp2
      go_ret
      exact ⟨pre, _, ⟨hG.row, by rw [hG.last]; omega⟩, rfl, hG.own, hG.lies, hG.below⟩
end Go.Proofs.Ytnbhadfhgecajaa
