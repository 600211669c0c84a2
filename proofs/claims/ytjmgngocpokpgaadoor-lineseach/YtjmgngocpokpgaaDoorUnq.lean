/-
  Texts between quotes, as they stand for themselves.
-/
import Derived.Test.YtjmgngocpokpgaaDoorEsc
import Derived.Test.YtjmgngocpokpgaaDoorTk
import Derived.Laws.BytesString
namespace Go.Proofs.YtjmgngocpokpgaaDoor
open Go.RowKit
set_option linter.unusedVariables false
set_option linter.unusedSimpArgs false
/-- Between two double quotes, from a place on: the text, and the place behind it. -/
def unqD (l : List UInt8) : Nat → Nat → List UInt8 → Option (List UInt8 × Nat)
  | 0, _, _ => none
  | n + 1, k, acc => match l[k]? with
    | none => none
    | some c => if (c.toNat : Int) = 34 then some (acc, k + 1) else if (c.toNat : Int) = 92 then (match escF (l.drop k) with
        | none => none
        | some (d, m) => unqD l n (k + m) (acc ++ [d])) else unqD l n (k + 1) (acc ++ [c])
def unqS (l : List UInt8) : Nat → Nat → List UInt8 → Option (List UInt8 × Nat)
  | 0, _, _ => none
  | n + 1, k, acc => match l[k]? with
    | none => none
    | some c => if (c.toNat : Int) = 39 then (if Lib.hasPrefix (l.drop k) [39, 39] = true then unqS l n (k + 2) (acc ++ [39]) else some (acc, k + 1)) else unqS l n (k + 1) (acc ++ [c])
def txtE (o : Option (List UInt8 × Nat)) : Ending := match o with
  | none => .returned (.tuple #[.string ⟨#[]⟩, .int .i64 0, .bool false])
  | some (t, k) => .returned (.tuple #[.string ⟨t.toArray⟩, .int .i64 k, .bool true])
def zL (l : List UInt8) : List Int := l.map fun c => (c.toNat : Int)
theorem unqD_none (l : List UInt8) (n k : Nat) (acc : List UInt8) (h : l.length ≤ k) : unqD l n k acc = none := by
  cases n with
  | zero => rfl
  | succ n => rw [unqD, List.getElem?_eq_none_iff.2 h]
theorem unqS_none (l : List UInt8) (n k : Nat) (acc : List UInt8) (h : l.length ≤ k) : unqS l n k acc = none := by
  cases n with
  | zero => rfl
  | succ n => rw [unqS, List.getElem?_eq_none_iff.2 h]
theorem zL_length (l : List UInt8) : (zL l).length = l.length := by simp [zL]
theorem zL_append (a b : List UInt8) : zL (a ++ b) = zL a ++ zL b := by simp [zL]
theorem fold_push : ∀ (l : List UInt8) (s : ByteArray), (zL l).foldl (fun r n => r.push (UInt8.ofNat n.toNat)) s = ⟨s.data ++ l.toArray⟩
  | [], s => by simp [zL]
  | c :: l, s => by
    have := fold_push l (s.push c)
    simp only [zL, List.map_cons, List.foldl_cons] at this ⊢
    have e : UInt8.ofNat (c.toNat : Int).toNat = c := by simp
    rw [e]
    rw [this]
    simp [ByteArray.push]
/-- Bytes in a row of their own, as a text. -/
theorem str_row (w : World) (base n : Nat) (v : Value) (l : List UInt8) (hn : l.length = n) (hB : w.ownsRow base 5 1 v n (vals (zL l))) : (convert 22 9 v).run Tryd.prog w = .ok (.string ⟨l.toArray⟩) w := by
  subst hn
  rcases hB.2 with ⟨rfl, h0⟩ | ⟨g, cap, cur, rfl, _, hgg, _⟩
  · rw [run_convert_bytes_string w 22 9 5 none 0 0 Tryd.underlying22 Tryd.underlying5 Tryd.underlying9]
    have : l = [] := List.length_eq_zero_iff.1 h0
    subst this
    simp [Conv.bytesToString]; rfl
  · rw [run_convert_bytes_string w 22 9 5 _ _ _ Tryd.underlying22 Tryd.underlying5 Tryd.underlying9]
    have hl := run_loadCells_list (P := Tryd.prog) w ⟨g, 0, none⟩ ((zL l).map (Value.int .u8)) (fun j v hj => hB.cells rfl j v hj)
    simp only [List.length_map, zL_length] at hl
    have := run_bytesToString w ⟨g, 0, none⟩ l.length cap (zL l) hl
    rw [this, fold_push]
    congr
    simp
/-- A byte more in a row of bytes. -/
theorem app_one {w w1 w2 : World} {base g cp n : Nat} {v : Value} {acc : List UInt8} {c : UInt8} {o : Obj} (hn : acc.length = n) (O1 : w1.ownsRow base 5 1 v n (vals (zL acc))) (B1 : Below w.heap.size w w1) (hb : w.heap.size ≤ base) (hown : w2.ownsRow base 5 1 (.slice (some ⟨g, 0, none⟩) (n + 1) cp) (n + 1) (vals (zL acc) ++ vals [(c.toNat : Int)])) (hg : (w1.alloc o).grownBy w2 v.ownBlock) :
    Hid (w2.ownsRow base 5 1 (.slice (some ⟨g, 0, none⟩) (n + 1) cp) (acc ++ [c]).length (vals (zL (acc ++ [c])))) ∧ Hid (Below w.heap.size w w2) := by
  subst hn
  refine ⟨by show w2.ownsRow _ _ _ _ _ _; rw [zL_append, vals_append]; simpa [zL] using hown, (B1.alloc B1.size _).grown hg (by have := B1.size; simp; omega) (fun k h => Nat.le_trans hb (O1.lt k h).1)⟩
theorem vals_one1 (c : UInt8) : ∀ u ∈ vals [(c.toNat : Int)], u.oneCell' = true := vals_one _
theorem esc_none (l : List UInt8) (k : Nat) (hs : l.length ≤ 2 ^ 40) (h : escF (l.drop k) = none) (w : World) : Calls Tryd.prog 80 #[.string ((ByteArray.mk l.toArray).extract k l.length)] w fun e w' => e = .returned (.tuple #[.int .u8 0, .int .i64 0]) ∧ ∃ q, w' = w.drewN q := by
  rw [extract_drop]
  have := escaped_any (l.drop k) w (by simp; omega)
  rw [h] at this
  exact this
theorem esc_some (l : List UInt8) (k : Nat) (hs : l.length ≤ 2 ^ 40) {d : UInt8} {m : Nat} (h : escF (l.drop k) = some (d, m)) (w : World) : Calls Tryd.prog 80 #[.string ((ByteArray.mk l.toArray).extract k l.length)] w fun e w' => e = .returned (.tuple #[.int .u8 (d.toNat : Int), .int .i64 m]) ∧ ∃ q, w' = w.drewN q := by
  rw [extract_drop]
  have := escaped_any (l.drop k) w (by simp; omega)
  rw [h] at this
  exact this
set_option maxHeartbeats 4000000 in
set_option maxRecDepth 100000 in
theorem unqD_any (l : List UInt8) (w : World) (hs : l.length ≤ 2 ^ 40) :
    Calls Tryd.prog 62 #[.string ⟨l.toArray⟩] w fun e w' => e = txtE (unqD l l.length 1 []) ∧ Below w.heap.size w w' := by
  obtain ⟨i5, hi5, hz50, hz51, hz52⟩ := info_parts Tryd.info5
  go_enter Tryd.func62, Tryd.ntmps62
  go_wp2
  go_loopw [5, 6] (fun v t wr => ∃ (n k a : Nat) (acc : List UInt8), t = .int .i64 k ∧ unqD l l.length 1 [] = unqD l n k acc ∧ l.length < n + k ∧ acc.length = a ∧ a < k ∧ k ≤ l.length + 1 ∧ wr.ownsRow w.heap.size 5 1 v a (vals (zL acc)) ∧ Below w.heap.size w wr) (fun _ t _ => l.length + 4 - (intOf t).toNat)
  case atStart => exact ⟨l.length, 1, 0, [], rfl, rfl, by omega, rfl, by omega, by omega, World.ownsRow_nil _ _ _ _, Below.refl _ _⟩
  case round =>
    obtain ⟨n, k, a, acc, rfl, he, hn, hal, hak, hk, hown, hbel⟩ := hrel
    have HE := hide2 he
    have HO := hide2 hown
    have HB := hide2 hbel
    have HA := hide2 hal
    clear he hown hbel hal
    have k0 : (0 : Int) ≤ k := by omega
    rcases ik : l[k]? with _ | c
    · have hl := len_none ik
      have hl' : ¬ (k : Int) < l.length := by omega
      go_wp2
      refine bodyPost_ret (v := .tuple #[.string ⟨#[]⟩, .int .i64 0, .bool false]) (by simp [results, Tryd.results62, go_sem]) rfl ?_
      exact ⟨by rw [HE.out, unqD_none _ _ _ _ (by omega)]; rfl, HB.out⟩
    · have ek := ix_eq ik
      have hkl := ix_lt ik
      have hl' : (k : Int) < l.length := by omega
      have lo := u8_lo c
      have hi := u8_hi c
      obtain ⟨n, rfl⟩ : ∃ n', n = n' + 1 := ⟨n - 1, by omega⟩
      by_cases h1 : (c.toNat : Int) = 34
      · have HX : Hid (unqD l (n + 1) k acc = some (acc, k + 1)) := by show _ = _; rw [unqD, ik]; simp [h1]
        have hcv := str_row wr w.heap.size a _ acc HA.out HO.out
        go_wp2
        refine bodyPost_ret (v := .tuple #[.string ⟨acc.toArray⟩, .int .i64 (k + 1), .bool true]) (by simp [results, Tryd.results62, go_sem]) rfl ?_
        exact ⟨by rw [HE.out, HX.out]; rfl, HB.out⟩
      by_cases h2 : (c.toNat : Int) = 92
      · have HX : Hid (unqD l (n + 1) k acc = match escF (l.drop k) with | none => none | some (d, m) => unqD l n (k + m) (acc ++ [d])) := by show _ = _; rw [unqD, ik]; simp [h2]
        rcases hE : escF (l.drop k) with _ | ⟨d, m⟩
        · rw [hE] at HX
          have hesc := esc_none l k hs hE
          clear hE
          go_wp2_with (go_at_call 80; refine (hesc _).mono ?_; rintro e w' ⟨rfl, q, rfl⟩)
          refine bodyPost_ret (v := .tuple #[.string ⟨#[]⟩, .int .i64 0, .bool false]) (by simp [results, Tryd.results62, go_sem]) rfl ?_
          exact ⟨by rw [HE.out, HX.out]; rfl, below_drewN HB.out q⟩
        · rw [hE] at HX
          have hesc := esc_some l k hs hE
          obtain ⟨m2, mk, m4⟩ := escF_pos hE
          rw [List.length_drop] at mk
          clear hE
          have m0 : ((m : Int) == 0) = false := by simp; omega
          go_wp2_with (first | (go_at_call 80; refine (hesc _).mono ?_; rintro e w' ⟨rfl, q, rfl⟩; have HOq := hide2 (own_blk (w' := wr.drewN q) HO.out (fun j hj => by simp)); have HBq := hide2 (below_drewN HB.out q); obtain ⟨wq, hwq⟩ : ∃ wq, wr.drewN q = wq := ⟨_, rfl⟩; rw [hwq] at HOq HBq ⊢; clear hwq) | (at_builtin; refine wpList_append_form _ rfl (.tmp 34) (.tmp 36) 22 rfl w.heap.size 5 i5 (.int .u8 0) 1 1 Tryd.underlying22 hi5 hz50 hz51 hz52 rfl (by decide) _ a (vals (zL acc)) rfl (HOq.out.alloc _) ⟨wq.heap.size, 0, none⟩ 1 1 (vals [(d.toNat : Int)]) rfl rfl (World.news_of_block (heap_alloc_new wq _)) (vals_one _) (by omega) (by unfold maxLen; omega) (by omega) (by have := HBq.out.size; simp; omega) ?_; intro g2 c2 w2 hown2 hgrow2; obtain ⟨O2, B2⟩ := app_one HA.out HOq.out HBq.out (Nat.le_refl _) hown2 hgrow2; clear hown2 hgrow2))
          go_roundw
          case rel => exact ⟨n, k + m, a + 1, acc ++ [d], by go_num, by rw [HE.out, HX.out], by omega, by simp [HA.out], by omega, by omega, by have := O2.out; simpa [HA.out] using this, B2.out⟩
          case measure => simp [intOf]; omega
      · have HX : Hid (unqD l (n + 1) k acc = unqD l n (k + 1) (acc ++ [c])) := by show _ = _; rw [unqD, ik]; simp [h1, h2]
        go_wp2_with (at_builtin; refine wpList_append_form _ rfl (.tmp 34) (.tmp 36) 22 rfl w.heap.size 5 i5 (.int .u8 0) 1 1 Tryd.underlying22 hi5 hz50 hz51 hz52 rfl (by decide) _ a (vals (zL acc)) rfl (HO.out.alloc _) ⟨wr.heap.size, 0, none⟩ 1 1 (vals [(c.toNat : Int)]) rfl rfl (World.news_of_block (heap_alloc_new wr _)) (vals_one _) (by omega) (by unfold maxLen; omega) (by omega) (by have := HB.out.size; simp; omega) ?_; intro g2 c2 w2 hown2 hgrow2; obtain ⟨O2, B2⟩ := app_one HA.out HO.out HB.out (Nat.le_refl _) hown2 hgrow2; clear hown2 hgrow2)
        go_roundw
        case rel => exact ⟨n, k + 1, a + 1, acc ++ [c], by go_num, by rw [HE.out, HX.out], by omega, by simp [HA.out], by omega, by omega, by have := O2.out; simpa [HA.out] using this, B2.out⟩
        case measure => simp [intOf]; omega
end Go.Proofs.YtjmgngocpokpgaaDoor
