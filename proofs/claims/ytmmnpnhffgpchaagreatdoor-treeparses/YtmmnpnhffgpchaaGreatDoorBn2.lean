import Derived.Test.YtmmnpnhffgpchaaGreatDoorBn1
import Derived.Test.YtmmnpnhffgpchaaGreatDoorLShf
import Derived.Deep.QuietTactic
import Derived.BigQuiet
import Derived.Deep.RegionHeld3
import Derived.Deep.RegionLaw
/-
  Small functions of package lines: blanks passed, what says nothing, items.
-/
namespace Go.Proofs.YtmmnpnhffgpchaaGreatDoor.Ln
open Go.RowKit
set_option linter.unusedVariables false
set_option linter.unusedSimpArgs false
theorem past_any (s : ByteArray) (w : World) :
    Calls Tryz.prog 64 #[.string s] w fun e w' => e = .returned (.string ⟨(Lib.trimLeftB s.data.toList 32).toArray⟩) ∧ w' = w := by
  go_enter Tryz.func64, Tryz.ntmps64
  go_wp2_with (go_at_call 83; refine (Tryz.strings_TrimLeft_one _ _ (by decide) _).mono ?_; rintro e w' ⟨rfl, rfl⟩)
  go_ret
  exact ⟨rfl, rfl⟩
def hd0 (c : UInt8) : Int := (c.toNat : Int)
def nulF (r : List UInt8) : Bool := match Lib.trimLeftB r 32 with
  | [] => true
  | c :: p => decide ((c.toNat : Int) = 35 ∧ p.length + 1 < r.length)
theorem past_at (s : ByteArray) (w : World) (p : List UInt8) (h : Lib.trimLeftB s.data.toList 32 = p) :
    Calls Tryz.prog 64 #[.string s] w fun e w' => e = .returned (.string ⟨p.toArray⟩) ∧ w' = w := h ▸ past_any s w
theorem past_len (r : List UInt8) : (Lib.trimLeftB r 32).length ≤ r.length := (List.dropWhile_sublist _).length_le
theorem size_list (s : ByteArray) : s.size = s.data.toList.length := by cases s; rfl
theorem saysNothing_any (l : List UInt8) (w : World) (hs : l.length ≤ 2 ^ 62) :
    Calls Tryz.prog 52 #[.string ⟨l.toArray⟩] w fun e w' => e = .returned (.bool (nulF l)) ∧ w' = w := by
  have hpl := past_len l
  rcases hp : Lib.trimLeftB l 32 with _ | ⟨c, p⟩
  · have hN : nulF l = true := by rw [nulF, hp]
    rw [hN]
    go_enter Tryz.func52, Tryz.ntmps52
    go_wp2_with (go_at_call 64; refine (past_at _ _ _ hp).mono ?_; rintro e w' ⟨rfl, rfl⟩)
    go_ret
    exact ⟨rfl, rfl⟩
  · have hN : Hid (nulF l = decide ((c.toNat : Int) = 35 ∧ p.length + 1 < l.length)) := by show _ = _; rw [nulF, hp]
    have lo := u8_lo c
    have hi := u8_hi c
    rw [hp] at hpl
    have hpl' : p.length + 1 ≤ l.length := hpl
    by_cases hc : (c.toNat : Int) = 35 <;> by_cases hl : p.length + 1 < l.length
    all_goals
      go_enter Tryz.func52, Tryz.ntmps52
      go_wp2_with (go_at_call 64; refine (past_at _ _ _ hp).mono ?_; rintro e w' ⟨rfl, rfl⟩)
      go_ret
      refine ⟨ret_bool ?_, rfl⟩
      rw [hN.out]
      simp [hc]
      try omega
def itmF (l : List UInt8) : Bool := (l == [45]) || Lib.hasPrefix l [45, 32]
theorem toList_mk (l : List UInt8) : (ByteArray.mk l.toArray).toList = l := by
  rw [ByteArray.toList_eq]
theorem isItem_any (l : List UInt8) (w : World) (hs : l.length ≤ 2 ^ 62) :
    Calls Tryz.prog 45 #[.string ⟨l.toArray⟩] w fun e w' => e = .returned (.bool (itmF l)) ∧ w' = w := by
  go_enter Tryz.func45, Tryz.ntmps45
  go_wp2_with (go_at_call 65; refine (Tryz.strings_HasPrefix _ _ _).mono ?_; rintro e w' ⟨rfl, rfl⟩)
  all_goals go_ret
  all_goals refine ⟨ret_bool ?_, rfl⟩
  · have : (l == [45]) = true := by simpa using (by assumption : l = [45])
    rw [itmF, this]; rfl
  · rfl
theorem extract_drop (l : List UInt8) (k : Nat) : (ByteArray.mk l.toArray).extract k l.length = ⟨(l.drop k).toArray⟩ := by
  apply ByteArray.ext
  simp [ByteArray.data_extract]
  exact List.take_of_length_le (by simp)
theorem extract_take (l : List UInt8) (k : Nat) : (ByteArray.mk l.toArray).extract 0 k = ⟨(l.take k).toArray⟩ := by
  apply ByteArray.ext
  simp [ByteArray.data_extract]
theorem rest_any (l : List UInt8) (at' : Nat) (b : Nat) (w : World) (hs : l.length ≤ 2 ^ 62) (ha : at' ≤ l.length)
    (h0 : w.cell? ⟨b, 0, none⟩ = some (.string ⟨l.toArray⟩)) (h2 : w.cell? ⟨b, 2, none⟩ = some (.int .i64 at')) :
    Calls Tryz.prog 46 #[.pointer (some ⟨b, 0, none⟩)] w fun e w' => e = .returned (.string ⟨(l.drop at').toArray⟩) ∧ ∃ q, w' = w.drewN q := by
  have a0 : (0 : Int) ≤ at' := by omega
  have a1 : (at' : Int) ≤ l.length := by omega
  go_enter Tryz.func46, Tryz.ntmps46
  go_wp2
  go_quiet (fail)
  go_wp2
  go_ret
  exact ⟨by rw [extract_drop]; rfl, nq, rfl⟩
end Go.Proofs.YtmmnpnhffgpchaaGreatDoor.Ln

/-
  What is escaped; texts taken anew.
-/
namespace Go.Proofs.YtmmnpnhffgpchaaGreatDoor.Ln
open Go.RowKit
set_option linter.unusedVariables false
set_option linter.unusedSimpArgs false
def hexL : List UInt8 := [48, 49, 50, 51, 52, 53, 54, 55, 56, 57, 97, 98, 99, 100, 101, 102]
def hexI (c : UInt8) : Int := Lib.indexByte hexL c
theorem ib_bd : ∀ (l : List UInt8) (c : UInt8), -1 ≤ Lib.indexByte l c ∧ Lib.indexByte l c < l.length
  | [], c => by simp [Lib.indexByte]
  | b :: l, c => by
    have ih := ib_bd l c
    unfold Lib.indexByte
    simp only [List.length_cons]
    split
    · omega
    · split <;> omega
theorem hexI_bd (c : UInt8) : -1 ≤ hexI c ∧ hexI c ≤ 15 := by
  have := ib_bd hexL c
  have h16 : hexL.length = 16 := rfl
  unfold hexI
  omega
theorem clone_any (s : ByteArray) (w : World) (hs : s.size ≤ 281474976710656) : Calls Tryz.prog 50 #[.string s] w fun e w' => e = .returned (.string s) ∧ Below w.heap.size w w' := by
  go_enter Tryz.func50, Tryz.ntmps50
  go_wp2_with (go_at_call 71; refine (Tryz.stringslite_Clone _ _ hs).mono ?_; rintro e w' ⟨rfl, hb⟩)
  go_ret
  exact ⟨rfl, hb⟩
theorem hex_at (c : UInt8) (w : World) : Calls Tryz.prog 68 #[.string ⟨#[48, 49, 50, 51, 52, 53, 54, 55, 56, 57, 97, 98, 99, 100, 101, 102]⟩, .int .u8 (c.toNat : Int)] w fun e w' => e = .returned (.int .i64 (hexI c)) ∧ w' = w := by
  have := Tryz.strings_IndexByte ⟨#[48, 49, 50, 51, 52, 53, 54, 55, 56, 57, 97, 98, 99, 100, 101, 102]⟩ (c.toNat : Int) w
  have e : ((c.toNat : Int).toNat.toUInt8) = c := by simp
  rw [e] at this
  exact this
def hexB (h l : Int) : UInt8 := (16 * h + l).toNat.toUInt8
theorem or_fin : ∀ a b : Fin 16, bits BinOp.or IntKind.i64 ((a.val : Int) * 16) (b.val : Int) % 256 = ((hexB (a.val : Int) (b.val : Int)).toNat : Int) := by decide +kernel
theorem or_hex (a b : Int) (ha : 0 ≤ a) (ha' : a ≤ 15) (hb : 0 ≤ b) (hb' : b ≤ 15) : bits BinOp.or IntKind.i64 (a * 16) b % 256 = ((hexB a b).toNat : Int) := by
  have := or_fin ⟨a.toNat, by omega⟩ ⟨b.toNat, by omega⟩
  have e1 : (a.toNat : Int) = a := by omega
  have e2 : (b.toNat : Int) = b := by omega
  simpa only [e1, e2] using this
theorem ix_lt {l : List UInt8} {k : Nat} {c : UInt8} (h : l[k]? = some c) : k < l.length := (List.getElem?_eq_some_iff.1 h).1
theorem ix_eq {l : List UInt8} {k : Nat} {c : UInt8} (h : l[k]? = some c) : (ByteArray.mk l.toArray)[k]'(ix_lt h) = c := (List.getElem?_eq_some_iff.1 h).2
/-- What the first bytes, a backslash the first, stand for. -/
def escF (l : List UInt8) : Option (UInt8 × Nat) := match l[1]? with
  | none => none
  | some c => if (c.toNat : Int) = 34 ∨ (c.toNat : Int) = 92 then some (c, 2) else if (c.toNat : Int) = 110 then some (10, 2) else if (c.toNat : Int) = 116 then some (9, 2)
    else if (c.toNat : Int) = 120 then (match l[2]?, l[3]? with
      | some h, some m => if 0 ≤ hexI h ∧ 0 ≤ hexI m then some (hexB (hexI h) (hexI m), 4) else none
      | _, _ => none) else none
def escE (o : Option (UInt8 × Nat)) : Ending := match o with
  | none => .returned (.tuple #[.int .u8 0, .int .i64 0])
  | some (c, k) => .returned (.tuple #[.int .u8 (c.toNat : Int), .int .i64 k])
set_option maxHeartbeats 2000000 in
theorem escaped_x (l : List UInt8) (c h m : UInt8) (w : World) (hs : l.length ≤ 2 ^ 40) (i1 : l[1]? = some c) (i2 : l[2]? = some h) (i3 : l[3]? = some m) (hc : (c.toNat : Int) = 120) :
    Calls Tryz.prog 92 #[.string ⟨l.toArray⟩] w fun e w' => e = escE (escF l) ∧ ∃ q, w' = w.drewN q := by
  have b1 := hexI_bd h
  have b2 := hexI_bd m
  have HE : Hid (escF l = if 0 ≤ hexI h ∧ 0 ≤ hexI m then some (hexB (hexI h) (hexI m), 4) else none) := by
    show _ = _
    rw [escF, i1]
    simp only [hc, i2, i3]
    rfl
  have e1 := ix_eq i1
  have e2 := ix_eq i2
  have e3 := ix_eq i3
  have l3 : (3 : Int) < l.length := by have := ix_lt i3; omega
  go_enter Tryz.func92, Tryz.ntmps92
  go_wp2
  go_quiet ((go_at_call 68; exact Calls.quiet_of_same (hex_at _ _)))
  go_wp2
  · have g1 : 0 ≤ hexI h := by assumption
    have g2 : 0 ≤ hexI m := by assumption
    go_ret2
    exact ⟨by rw [HE.out, if_pos ⟨g1, g2⟩, or_hex _ _ g1 b1.2 g2 b2.2]; rfl, nq, rfl⟩
  · have g2 : ¬ 0 ≤ hexI m := by omega
    go_ret2
    exact ⟨by rw [HE.out, if_neg (fun h => g2 h.2)]; rfl, nq, rfl⟩
  · have g1 : ¬ 0 ≤ hexI h := by omega
    go_ret2
    exact ⟨by rw [HE.out, if_neg (fun h => g1 h.1)]; rfl, nq, rfl⟩
theorem len_none {l : List UInt8} {k : Nat} (h : l[k]? = none) : (l.length : Int) ≤ k := by
  have := List.getElem?_eq_none_iff.1 h; omega
set_option maxHeartbeats 2000000 in
theorem escaped_any (l : List UInt8) (w : World) (hs : l.length ≤ 2 ^ 40) :
    Calls Tryz.prog 92 #[.string ⟨l.toArray⟩] w fun e w' => e = escE (escF l) ∧ ∃ q, w' = w.drewN q := by
  rcases i1 : l[1]? with _ | c
  · have HE : Hid (escF l = none) := by show _ = _; rw [escF, i1]
    have hl := len_none i1
    have hl' : (l.length : Int) < 2 := by omega
    go_enter Tryz.func92, Tryz.ntmps92
    go_wp2
    go_ret2
    exact ⟨by rw [HE.out]; rfl, 0, rfl⟩
  · have e1 := ix_eq i1
    have hl : (1 : Int) < l.length := by have := ix_lt i1; omega
    have hl' : ¬ (l.length : Int) < 2 := by omega
    have lo := u8_lo c
    have hi := u8_hi c
    by_cases h1 : (c.toNat : Int) = 34
    · have HE : Hid (escF l = some (c, 2)) := by show _ = _; rw [escF, i1]; simp [h1]
      go_enter Tryz.func92, Tryz.ntmps92
      go_wp2
      go_ret2
      exact ⟨by rw [HE.out]; simp [escE, h1], 0, rfl⟩
    by_cases h2 : (c.toNat : Int) = 92
    · have HE : Hid (escF l = some (c, 2)) := by show _ = _; rw [escF, i1]; simp [h2]
      go_enter Tryz.func92, Tryz.ntmps92
      go_wp2
      go_ret2
      exact ⟨by rw [HE.out]; simp [escE, h2], 0, rfl⟩
    by_cases h3 : (c.toNat : Int) = 110
    · have HE : Hid (escF l = some (10, 2)) := by show _ = _; rw [escF, i1]; simp [h3]
      go_enter Tryz.func92, Tryz.ntmps92
      go_wp2
      go_ret2
      exact ⟨by rw [HE.out]; rfl, 0, rfl⟩
    by_cases h4 : (c.toNat : Int) = 116
    · have HE : Hid (escF l = some (9, 2)) := by show _ = _; rw [escF, i1]; simp [h4]
      go_enter Tryz.func92, Tryz.ntmps92
      go_wp2
      go_ret2
      exact ⟨by rw [HE.out]; rfl, 0, rfl⟩
    by_cases h5 : (c.toNat : Int) = 120
    · rcases i3 : l[3]? with _ | m
      · have HE : Hid (escF l = none) := by
          show _ = _
          rw [escF, i1]
          simp only [h5, i3]
          rcases l[2]? with _ | _ <;> simp
        have hl4 := len_none i3
        have hl5 : (l.length : Int) < 4 := by omega
        go_enter Tryz.func92, Tryz.ntmps92
        go_wp2
        go_ret2
        exact ⟨by rw [HE.out]; rfl, 0, rfl⟩
      · rcases i2 : l[2]? with _ | h
        · have := len_none i2
          have := ix_lt i3
          omega
        · exact escaped_x l c h m w hs i1 i2 i3 h5
    · have HE : Hid (escF l = none) := by show _ = _; rw [escF, i1]; simp [h1, h2, h3, h4, h5]
      go_enter Tryz.func92, Tryz.ntmps92
      go_wp2
      go_ret2
      exact ⟨by rw [HE.out]; rfl, 0, rfl⟩
/-- How many bytes it takes is more than nought. -/
theorem escF_pos {l : List UInt8} {c : UInt8} {k : Nat} (h : escF l = some (c, k)) : 2 ≤ k ∧ k ≤ l.length ∧ k ≤ 4 := by
  unfold escF at h
  rcases i1 : l[1]? with _ | d
  · rw [i1] at h; cases h
  · have := ix_lt i1
    rw [i1] at h
    dsimp only at h
    split at h
    · cases h; omega
    · split at h
      · cases h; omega
      · split at h
        · cases h; omega
        · split at h
          · rcases i3 : l[3]? with _ | m
            · rcases i2 : l[2]? with _ | _ <;> (rw [i2, i3] at h; cases h)
            · have := ix_lt i3
              rcases i2 : l[2]? with _ | _
              · rw [i2, i3] at h; cases h
              · rw [i2, i3] at h
                dsimp only at h
                split at h
                · cases h; omega
                · cases h
          · cases h
end Go.Proofs.YtmmnpnhffgpchaaGreatDoor.Ln

/-
  Tokens in memory, and the reader that goes through a line.
-/
namespace Go.Proofs.YtmmnpnhffgpchaaGreatDoor.Ln
open Go.RowKit
set_option linter.unusedVariables false
set_option linter.unusedSimpArgs false
theorem info_parts {P : Program} {t : TypeId} {z : Option Value} {s b : Nat} (h : (P.info? t).map (fun i => (i.zero, i.size, i.bytes)) = some (z, s, b)) : ∃ i, P.info? t = some i ∧ i.zero = z ∧ i.size = s ∧ i.bytes = b := by
  obtain ⟨i, hi, he⟩ := Option.map_eq_some_iff.1 h
  cases he
  exact ⟨i, hi, rfl, rfl, rfl⟩
theorem Tryz.info52 : (Tryz.prog.info? 52).map (fun i => (i.zero, i.size, i.bytes)) = some (some (.agg #[.int .i64 0, .int .i64 0, .int .i64 0, .string ⟨#[]⟩, .bool false]), 5, 48) := by kernel_rfl
theorem Tryz.info5 : (Tryz.prog.info? 5).map (fun i => (i.zero, i.size, i.bytes)) = some (some (.int .u8 0), 1, 1) := by kernel_rfl
theorem step_append_own {P : Program} {ops : Array Oper} {o : Oper} {a : Act} {w : World} {K : Act → World → Prop} {Q : Exit → Act → World → Prop} {E : Prop}
    (hg : o.guard = none) (s x : Operand) (t : TypeId) (hop : o.op = Op.call { callee := Callee.builtin Builtin.append, args := #[s, x], argTypes := #[t, t] })
    (base : Nat) (e : TypeId) (i : TypeInfo) (z : Value) (size bytes : Nat) (h1 : P.underlying t = some (.slice e)) (h2 : P.info? e = some i) (h3 : i.zero = some z) (h4 : i.size = size) (h5 : i.bytes = bytes) (h6 : z.cells.size = size) (h7 : 0 < size)
    (v : Value) (n : Nat) (xs : List Value) (hs : a.eval s = v) (hown : w.ownsRow base e size v n xs)
    (ad : Addr) (m c : Nat) (news : List Value) (hx : a.eval x = .slice (some ad) m c) (hn : news.length = m * size) (hc : ∀ j u, news[j]? = some u → w.cell? (ad.add j) = some u) (h1c : ∀ u ∈ news, u.oneCell' = true)
    (b1 : n + m ≤ maxLen) (b2 : (n + m) * bytes ≤ 140737488355328) (hb : base ≤ w.heap.size)
    (hK : ∀ v' w', w'.ownsRow base e size v' (n + m) (xs ++ news) → w.grownBy w' v.ownBlock → K (a.put o.dst v') w') :
    if Region.wanted o (yielded ops a.tmps) = true then Oper.wp P o a w K Q else E := by
  have hw : Region.wanted o (yielded ops a.tmps) = true := by simp [Region.wanted, hg]
  rw [if_pos hw]
  obtain ⟨v', w', hrun, r1, r2, _⟩ := run_append_own (P := P) w base t o.type e i z size bytes h1 h2 h3 h4 h5 h6 h7 v n xs hown ad m c news hn hc h1c b1 b2 hb
  unfold Oper.wp
  simp [execOp, hop, resolve, invoke, builtin, hs, hx, hrun, Result.andThen]
  exact hK v' w' r1 r2
theorem own_blk {w w' : World} {base : Nat} {e : TypeId} {size : Nat} {v : Value} {n : Nat} {xs : List Value} (h : w.ownsRow base e size v n xs) (hb : ∀ k, v.ownBlock = some k → w'.heap[k]? = w.heap[k]?) : w'.ownsRow base e size v n xs := by
  refine ⟨h.1, ?_⟩
  rcases h.2 with h0 | ⟨g, cap, cur, rfl, hbg, hgg, rest⟩
  · exact .inl h0
  · exact .inr ⟨g, cap, cur, rfl, hbg, (hb g rfl).trans hgg, rest⟩
theorem own_low {w : World} {base base' : Nat} {e : TypeId} {size : Nat} {v : Value} {n : Nat} {xs : List Value} (h : w.ownsRow base e size v n xs) (hb : base' ≤ base) : w.ownsRow base' e size v n xs := by
  refine ⟨h.1, ?_⟩
  rcases h.2 with h0 | ⟨g, cap, cur, rfl, hbg, rest⟩
  · exact .inl h0
  · exact .inr ⟨g, cap, cur, rfl, Nat.le_trans hb hbg, rest⟩
theorem own_not {w : World} {base : Nat} {e : TypeId} {size : Nat} {v : Value} {n : Nat} {xs : List Value} {g : Nat} {cs : Array Value} {t : TypeId} {fr : Nat × Nat} (h : w.ownsRow base e size v n xs) (hg : w.heap[g]? = some (.cells cs t fr)) (hne : t ≠ e) : some g ≠ v.ownBlock := by
  rcases h.2 with ⟨rfl, _⟩ | ⟨g', cap, cur, rfl, _, hgg, _⟩
  · simp [Value.ownBlock]
  · simp only [Value.ownBlock]
    intro e'
    cases e'
    rw [hgg] at hg
    cases hg
    exact hne rfl
/-- A token, as it is told. -/
structure Tk where
  kind : Int
  line : Int
  col : Int
  text : List UInt8
  q : Bool
def Tk.row (t : Tk) : List Value := [.int .i64 t.kind, .int .i64 t.line, .int .i64 t.col, .string ⟨t.text.toArray⟩, .bool t.q]
theorem Tk.row_one (t : Tk) : ∀ u ∈ t.row, u.oneCell' = true := by
  intro u hu
  simp only [Tk.row, List.mem_cons, List.not_mem_nil, or_false] at hu
  rcases hu with rfl | rfl | rfl | rfl | rfl <;> rfl
/-- The reader in its block: the line, its number, the place, the tokens that it has. -/
structure Rd (w : World) (base b : Nat) (l : List UInt8) (num : Int) (p : Nat) (tv : Value) (ts : List Tk) : Prop where
  blk : w.heap[b]? = some (.cells #[.string ⟨l.toArray⟩, .int .i64 num, .int .i64 p, tv] 97 (0, 0))
  own : w.ownsRow base 52 5 tv ts.length (ts.flatMap Tk.row)
  low : base ≤ b
theorem cell_of {w : World} {b : Nat} {cs : Array Value} {t : TypeId} {fr : Nat × Nat} (h : w.heap[b]? = some (.cells cs t fr)) (j : Nat) (v : Value) (hj : cs[j]? = some v) : w.cell? ⟨b, j, none⟩ = some v := by
  rw [cell_of_row w b j cs t fr h]; exact hj
end Go.Proofs.YtmmnpnhffgpchaaGreatDoor.Ln
