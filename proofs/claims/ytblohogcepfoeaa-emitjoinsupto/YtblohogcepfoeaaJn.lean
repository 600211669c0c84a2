/-
  Texts joined: Join, and the document's.
-/
import Derived.Test.YtblohogcepfoeaaBase
import Derived.Laws.BytesString
import Derived.Lib.AppendStr
import Derived.Laws.Concat
namespace Go.Proofs.Ytblohogcepfoeaa
open Go.RowKit
set_option linter.unusedVariables false
set_option linter.unusedSimpArgs false
set_option maxRecDepth 100000
theorem hideL {p : Prop} (h : p) : Hid p := h
theorem Try.info5 : (Try.prog.info? 5).map (fun i => (i.zero, i.size, i.bytes)) = some (some (.int .u8 0), 1, 1) := by kernel_rfl
theorem info_parts {P : Program} {t : TypeId} {z : Option Value} {s b : Nat} (h : (P.info? t).map (fun i => (i.zero, i.size, i.bytes)) = some (z, s, b)) : ∃ i, P.info? t = some i ∧ i.zero = z ∧ i.size = s ∧ i.bytes = b := by
  rcases hi : P.info? t with _ | i
  · rw [hi] at h; cases h
  · rw [hi] at h; simp at h; exact ⟨i, rfl, h.1, h.2.1, h.2.2⟩
theorem own_form {w : World} {base : Nat} {e : TypeId} {size : Nat} {v : Value} {n : Nat} {xs : List Value} (h : w.ownsRow base e size v n xs) : ∃ a cp, v = .slice a n cp ∧ (a = none → cp = 0) ∧ n ≤ cp ∧ cp ≤ maxLen := by
  rcases h.2 with ⟨rfl, h0⟩ | ⟨g, cp, cur, rfl, _, _, hc, hm, _⟩
  · subst h0; exact ⟨none, 0, rfl, fun _ => rfl, Nat.le_refl _, by decide⟩
  · exact ⟨_, cp, rfl, (fun h => by cases h), hc, hm⟩
theorem own_nil (w : World) (base : Nat) (e : TypeId) (size : Nat) : w.ownsRow base e size (.slice none 0 0) 0 [] := ⟨by simp, .inl ⟨rfl, rfl⟩⟩
def zL (l : List UInt8) : List Int := l.map fun c => (c.toNat : Int)
theorem zL_length (l : List UInt8) : (zL l).length = l.length := by simp [zL]
theorem zL_append (a b : List UInt8) : zL (a ++ b) = zL a ++ zL b := by simp [zL]
theorem strCells_zL (l : List UInt8) : Lib.strCells ⟨l.toArray⟩ = vals (zL l) := by
  unfold Lib.strCells vals zL
  simp
theorem fold_push : ∀ (l : List UInt8) (s : ByteArray), (zL l).foldl (fun r n => r.push (UInt8.ofNat n.toNat)) s = ⟨s.data ++ l.toArray⟩
  | [], s => by simp [zL]
  | c :: l, s => by
    have := fold_push l (s.push c)
    simp only [zL, List.map_cons, List.foldl_cons] at this ⊢
    have e : UInt8.ofNat (c.toNat : Int).toNat = c := by simp
    rw [e]
    rw [this]
    simp [ByteArray.push]
/-- Bytes in a row of their own, as a text. -/
theorem str_row (w : World) (base n : Nat) (v : Value) (l : List UInt8) (hn : l.length = n) (hB : w.ownsRow base 5 1 v n (vals (zL l))) : (convert 28 9 v).run Try.prog w = .ok (.string ⟨l.toArray⟩) w := by
  subst hn
  rcases hB.2 with ⟨rfl, h0⟩ | ⟨g, cap, cur, rfl, _, hgg, _⟩
  · rw [run_convert_bytes_string w 28 9 5 none 0 0 Try.underlying28 Try.underlying5 Try.underlying9]
    have : l = [] := List.length_eq_zero_iff.1 h0
    subst this
    simp [Conv.bytesToString]; rfl
  · rw [run_convert_bytes_string w 28 9 5 _ _ _ Try.underlying28 Try.underlying5 Try.underlying9]
    have hl := run_loadCells_list (P := Try.prog) w ⟨g, 0, none⟩ ((zL l).map (Value.int .u8)) (fun j v hj => hB.cells rfl j v hj)
    simp only [List.length_map, zL_length] at hl
    have := run_bytesToString w ⟨g, 0, none⟩ l.length cap (zL l) hl
    rw [this, fold_push]
    congr
    simp
/-- texts behind a slice's address -/
def Strs (w : World) (a : Option Addr) (ds : List (List UInt8)) : Prop := (a = none ∧ ds = []) ∨ ∃ x, a = some x ∧ ∀ (j : Nat) d, ds[j]? = some d → w.cell? (x.add j) = some (.string ⟨d.toArray⟩)
theorem Strs.at_ {w : World} {a : Option Addr} {ds : List (List UInt8)} (h : Strs w a ds) {i : Nat} {d : List UInt8} (hi : ds[i]? = some d) : ∃ x, a = some x ∧ w.cell? (x.add i) = some (.string ⟨d.toArray⟩) := by
  rcases h with ⟨_, rfl⟩ | ⟨x, hx, hc⟩
  · simp at hi
  · exact ⟨x, hx, hc i d hi⟩
theorem Strs.below {w w' : World} {a : Option Addr} {ds : List (List UInt8)} (h : Strs w a ds) (hb : Below w.heap.size w w') : Strs w' a ds := by
  rcases h with h | ⟨x, hx, hc⟩
  · exact .inl h
  · exact .inr ⟨x, hx, fun j d hd => cell_of_below hb (hc j d hd)⟩
def jn (acc d : List UInt8) : List UInt8 := if d = [] then acc else if acc = [] then d else acc ++ ([45, 45, 45, 10] ++ d)
def jnF (ds : List (List UInt8)) : List UInt8 := ds.foldl jn []
def tot : List (List UInt8) → Nat
  | [] => 0
  | d :: ds => d.length + 4 + tot ds
theorem jn_len (acc d : List UInt8) : (jn acc d).length ≤ acc.length + (d.length + 4) := by
  unfold jn
  split
  · omega
  split
  · omega
  · simp only [List.length_append, List.length_cons, List.length_nil]; omega
theorem jn_nil (acc : List UInt8) : jn acc [] = acc := by simp [jn]
theorem jn_first (d : List UInt8) : jn [] d = d := by
  unfold jn; split <;> simp [*]
theorem jn_more {acc d : List UInt8} (h1 : ¬ acc = []) (h2 : ¬ d = []) : jn acc d = acc ++ ([45, 45, 45, 10] ++ d) := by simp [jn, h1, h2]
theorem jnF_snoc {ds : List (List UInt8)} {k : Nat} {d : List UInt8} (h : ds[k]? = some d) : jnF (ds.take (k + 1)) = jn (jnF (ds.take k)) d := by
  unfold jnF
  rw [List.take_add_one, h, Option.toList_some, List.foldl_append]
  rfl
theorem tot_snoc {ds : List (List UInt8)} {k : Nat} {d : List UInt8} (h : ds[k]? = some d) : tot (ds.take (k + 1)) = tot (ds.take k) + (d.length + 4) := by
  rw [List.take_add_one, h, Option.toList_some]
  generalize ds.take k = l
  induction l with
  | nil => simp [tot]
  | cons x l ih => simp only [List.cons_append, tot, ih]; omega
theorem tot_take : ∀ (ds : List (List UInt8)) (k : Nat), tot (ds.take k) ≤ tot ds
  | [], k => by simp
  | d :: ds, 0 => by simp [tot]
  | d :: ds, k + 1 => by simp only [List.take_succ_cons, tot]; have := tot_take ds k; omega
theorem jnF_len (ds : List (List UInt8)) : (jnF ds).length ≤ tot ds := by
  suffices h : ∀ (ds : List (List UInt8)) (acc : List UInt8), (ds.foldl jn acc).length ≤ acc.length + tot ds by simpa [jnF] using h ds []
  intro ds
  induction ds with
  | nil => intro acc; simp [tot]
  | cons d ds ih =>
    intro acc
    simp only [List.foldl_cons, tot]
    have := ih (jn acc d)
    have := jn_len acc d
    omega
theorem app_str {w w1 w2 : World} {base n : Nat} {v v' : Value} {acc d : List UInt8} (hn : acc.length = n) (O1 : w1.ownsRow base 5 1 v n (vals (zL acc))) (B1 : Below w.heap.size w w1) (hb : w.heap.size ≤ base) (hown : w2.ownsRow base 5 1 v' (n + (ByteArray.mk d.toArray).size) (vals (zL acc) ++ Lib.strCells ⟨d.toArray⟩)) (hg : w1.grownBy w2 v.ownBlock) :
    Hid (w2.ownsRow base 5 1 v' (acc ++ d).length (vals (zL (acc ++ d)))) ∧ Hid (Below w.heap.size w w2) := by
  subst hn
  rw [strCells_zL] at hown
  refine ⟨by show w2.ownsRow _ _ _ _ _ _; rw [zL_append, vals_append, List.length_append]; exact hown, B1.grown hg B1.size (fun k h => Nat.le_trans hb (O1.lt k h).1)⟩
theorem bytes_nil (l : List UInt8) : ((ByteArray.mk l.toArray).toList == (ByteArray.mk #[]).toList) = decide (l = []) := by
  rw [ByteArray.toList_eq, ByteArray.toList_eq]
  cases l <;> simp
theorem str_add (w : World) (x y : List UInt8) (h : x.length + y.length ≤ 9223372036854775807) : (Op.stringOp .add (ByteArray.mk x.toArray) ⟨y.toArray⟩).run Try.prog w = .ok (.string ⟨(x ++ y).toArray⟩) w := by
  have e := run_string_add_sum (P := Try.prog) (w := w) (a := ByteArray.mk x.toArray) (b := ⟨y.toArray⟩) h
  rw [e]
  congr 2
theorem bytes_some {l : List UInt8} (h : ¬ l = []) : ((ByteArray.mk l.toArray).toList == (ByteArray.mk #[]).toList) = false := by rw [bytes_nil]; simp [h]
set_option maxHeartbeats 4000000 in
theorem join_any (w : World) (a : Option Addr) (n cap : Nat) (ds : List (List UInt8)) (hn : ds.length = n) (hl : n ≤ 140737488351232) (hS : Strs w a ds) (ht : tot ds ≤ 2 ^ 30) :
    Calls Try.prog 4 #[.slice a n cap] w fun e w' => e = .returned (.string ⟨(jnF ds).toArray⟩) ∧ Below w.heap.size w w' := by
  have HS := hideL hS
  have HN := hideL hn
  have HT := hideL ht
  clear hS hn ht
  obtain ⟨i5, hi5, hz50, hz51, hz52⟩ := info_parts Try.info5
  go_enter Try.func4, Try.ntmps4
  go_wp2_with fail
  go_loopw [3, 8] (fun v t wr => ∃ (k : Nat) (acc : List UInt8), t = .int .i64 k ∧ jnF (ds.take k) = acc ∧ k ≤ n ∧ wr.ownsRow w.heap.size 5 1 v acc.length (vals (zL acc)) ∧ Below w.heap.size w wr) (fun _ t _ => n - (intOf t).toNat)
  case atStart => exact ⟨0, [], rfl, by simp [jnF], by omega, own_nil _ _ _ _, Below.refl _ _⟩
  case round =>
    obtain ⟨k, acc, rfl, hac, hk, hown, hbel⟩ := hrel
    obtain ⟨L, hL⟩ : ∃ L, acc.length = L := ⟨_, rfl⟩
    rw [hL] at hown
    obtain ⟨ao, cp, rfl, hbare, hLc, hcm⟩ := own_form hown
    have hLt : L ≤ tot (ds.take k) := by rw [← hL, ← hac]; exact jnF_len _
    have hTk := tot_take ds k
    have hTT := HT.out
    have hL30 : L ≤ 2 ^ 30 := by omega
    have HAC := hideL hac
    have HO := hideL hown
    have HB := hideL hbel
    have HL := hideL hL
    have HBR := hideL hbare
    have HLT := hideL hLt
    have k0 : (0 : Int) ≤ k := by omega
    clear hac hown hbel hL hbare hLt hTk hTT
    by_cases h2 : k < n
    · have h2' : (k : Int) < n := by omega
      rcases hki : ds[k]? with _ | d
      · have := List.getElem?_eq_none_iff.1 hki; have := HN.out; omega
      obtain ⟨x, hx, hcx0⟩ := HS.out.at_ hki
      subst hx
      have hcx := cell_of_below HB.out hcx0
      have HK := hideL hki
      have hds : (ByteArray.mk d.toArray).size = d.length := rfl
      have hd30 : L + 4 + d.length ≤ 2 ^ 30 := by
        have := tot_snoc hki; have := tot_take ds (k + 1); have := HT.out; have := HLT.out; omega
      have HDS := hideL hds
      have hbase : w.heap.size ≤ wr.heap.size := HB.out.size
      clear hki hcx0 hds
      have done : ∀ v' w2, (∃ acc2, jnF (ds.take (k + 1)) = acc2 ∧ w2.ownsRow w.heap.size 5 1 v' acc2.length (vals (zL acc2)) ∧ Below w.heap.size w w2) → ∃ (k' : Nat) (acc : List UInt8), Value.int .i64 ((k : Int) + 1) = .int .i64 k' ∧ jnF (ds.take k') = acc ∧ k' ≤ n ∧ w2.ownsRow w.heap.size 5 1 v' acc.length (vals (zL acc)) ∧ Below w.heap.size w w2 := fun v' w2 ⟨acc2, h1, h2, h3⟩ => ⟨k + 1, acc2, by go_num, h1, by omega, h2, h3⟩
      have DONE := hideL done
      clear done
      by_cases hd0 : d = []
      · subst hd0
        go_wp2_with (at_builtin; refine Lib.wpList_append_own_string _ rfl (.tmp 21) (.tmp 22) 28 9 rfl w.heap.size 5 i5 Try.underlying28 Try.underlying9 hi5 hz50 hz51 hz52 _ L (vals (zL acc)) rfl HO.out ⟨#[]⟩ rfl (by show L + 0 ≤ maxLen; unfold maxLen; omega) (by show L + 0 ≤ _; omega) hbase ?_; intro v4 w4 hown4 hgrow4 _; obtain ⟨O4, B4⟩ := app_str (d := []) HL.out HO.out HB.out (Nat.le_refl _) hown4 hgrow4; clear hown4 hgrow4)
        go_roundw
        case rel =>
          refine DONE.out _ _ ⟨acc, by rw [jnF_snoc HK.out, HAC.out, jn_nil], ?_, B4.out⟩
          have := O4.out
          rwa [List.append_nil] at this
        case measure => simp [intOf]; omega
      · have hbn : d.isEmpty = false := by simpa using hd0
        by_cases hL0 : L = 0
        · have hac0 : acc = [] := List.length_eq_zero_iff.1 (HL.out.trans hL0)
          subst hL0
          go_wp2_with (at_builtin; refine Lib.wpList_append_own_string _ rfl (.tmp 21) (.tmp 22) 28 9 rfl w.heap.size 5 i5 Try.underlying28 Try.underlying9 hi5 hz50 hz51 hz52 _ 0 (vals (zL acc)) rfl HO.out ⟨d.toArray⟩ rfl (by rw [HDS.out]; unfold maxLen; omega) (by rw [HDS.out]; omega) hbase ?_; intro v4 w4 hown4 hgrow4 _; obtain ⟨O4, B4⟩ := app_str (d := d) HL.out HO.out HB.out (Nat.le_refl _) hown4 hgrow4; clear hown4 hgrow4)
          go_roundw
          case rel => exact DONE.out _ _ ⟨acc ++ d, by rw [jnF_snoc HK.out, HAC.out, hac0, jn_first]; rfl, O4.out, B4.out⟩
          case measure => simp [intOf]; omega
        · have hL0' : 0 < L := by omega
          have hac0 : ¬ acc = [] := fun h => hL0 (by rw [← HL.out, h]; rfl)
          have H4 : Hid ((acc ++ [45, 45, 45, 10]).length + (ByteArray.mk d.toArray).size ≤ maxLen ∧ (acc ++ [45, 45, 45, 10]).length + (ByteArray.mk d.toArray).size ≤ 140737488355328) := by
            have h1 := HDS.out
            have h2 := HL.out
            show _ ∧ _
            rw [h1, List.length_append, h2]
            simp only [List.length_cons, List.length_nil]
            unfold maxLen
            omega
          go_wp2_with first
            | (at_builtin; refine Lib.wpList_append_own_string _ rfl (.tmp 19) (.const (.string ⟨#[45, 45, 45, 10]⟩)) 28 9 rfl w.heap.size 5 i5 Try.underlying28 Try.underlying9 hi5 hz50 hz51 hz52 _ L (vals (zL acc)) rfl HO.out ⟨#[45, 45, 45, 10]⟩ rfl (by show L + 4 ≤ maxLen; unfold maxLen; omega) (by show L + 4 ≤ _; omega) hbase ?_; intro v4 w4 hown4 hgrow4 _; obtain ⟨O4, B4⟩ := app_str (d := [45, 45, 45, 10]) HL.out HO.out HB.out (Nat.le_refl _) hown4 hgrow4; clear hown4 hgrow4)
            | (at_builtin; refine Lib.wpList_append_own_string _ rfl (.tmp 21) (.tmp 22) 28 9 rfl w.heap.size 5 i5 Try.underlying28 Try.underlying9 hi5 hz50 hz51 hz52 v4 (acc ++ [45, 45, 45, 10]).length (vals (zL (acc ++ [45, 45, 45, 10]))) rfl O4.out ⟨d.toArray⟩ rfl (H4.out.1) (H4.out.2) B4.out.size ?_; intro v5 w5 hown5 hgrow5 _; obtain ⟨O5, B5⟩ := app_str (d := d) rfl O4.out B4.out (Nat.le_refl _) hown5 hgrow5; clear hown5 hgrow5)
          go_roundw
          case rel => exact DONE.out _ _ ⟨acc ++ [45, 45, 45, 10] ++ d, by rw [jnF_snoc HK.out, HAC.out, jn_more hac0 hd0, List.append_assoc], O5.out, B5.out⟩
          case measure => simp [intOf]; omega
    · have h2' : ¬ (k : Int) < n := by omega
      have hcv := str_row wr w.heap.size L _ acc HL.out HO.out
      have hT : ds.take k = ds := List.take_of_length_le (by rw [HN.out]; omega)
      have HE : Hid (jnF ds = acc) := by have := HAC.out; rw [hT] at this; exact this
      clear hT
      go_wp2
      go_ret
      exact ⟨by rw [HE.out]; rfl, HB.out⟩
set_option maxHeartbeats 4000000 in
theorem rjoin_any (w : World) (a : Option Addr) (n cap : Nat) (ds : List (List UInt8)) (hn : ds.length = n) (hl : n ≤ 140737488351232) (hS : Strs w a ds) (ht : tot ds ≤ 2 ^ 30) :
    Calls Try.prog 5 #[.slice a n cap] w fun e w' => e = .returned (.string ⟨(jnF ds).toArray⟩) ∧ w' = w := by
  have HS := hideL hS
  have HN := hideL hn
  have HT := hideL ht
  clear hS hn ht
  go_enter Try.func5, Try.ntmps5
  go_wp2_with fail
  go_loopw [3, 4] (fun v t wr => ∃ (k : Nat) (acc : List UInt8), t = .int .i64 k ∧ jnF (ds.take k) = acc ∧ k ≤ n ∧ v = .string ⟨acc.toArray⟩ ∧ wr = w) (fun _ t _ => n - (intOf t).toNat)
  case atStart => exact ⟨0, [], rfl, by simp [jnF], by omega, rfl, rfl⟩
  case round =>
    obtain ⟨k, acc, rfl, hac, hk, rfl, rfl⟩ := hrel
    obtain ⟨L, hL⟩ : ∃ L, acc.length = L := ⟨_, rfl⟩
    have hLt : L ≤ tot (ds.take k) := by rw [← hL, ← hac]; exact jnF_len _
    have hTk := tot_take ds k
    have hTT := HT.out
    have hL30 : L ≤ 2 ^ 30 := by omega
    have HAC := hideL hac
    have HL := hideL hL
    have HLT := hideL hLt
    have k0 : (0 : Int) ≤ k := by omega
    clear hac hL hLt hTk hTT
    by_cases h2 : k < n
    · have h2' : (k : Int) < n := by omega
      rcases hki : ds[k]? with _ | d
      · have := List.getElem?_eq_none_iff.1 hki; have := HN.out; omega
      obtain ⟨x, hx, hcx⟩ := HS.out.at_ hki
      subst hx
      have HK := hideL hki
      have hd30 : L + 4 + d.length ≤ 2 ^ 30 := by
        have := tot_snoc hki; have := tot_take ds (k + 1); have := HT.out; have := HLT.out; omega
      clear hki
      by_cases hd0 : d = []
      · subst hd0
        have hbn : ((ByteArray.mk #[]).toList == (ByteArray.mk #[]).toList) = true := by simp
        go_wp2
        go_roundw
        case rel => exact ⟨k + 1, acc, by go_num, by rw [jnF_snoc HK.out, HAC.out, jn_nil], by omega, rfl, by trivial⟩
        case measure => simp [intOf]; omega
      · have hbn : d.isEmpty = false := by simpa using hd0
        by_cases ha0 : acc = []
        · subst ha0
          have hbn2 : ((ByteArray.mk #[]).toList == (ByteArray.mk #[]).toList) = true := by simp
          have hadd : (Op.stringOp .add (ByteArray.mk #[]) ⟨d.toArray⟩).run Try.prog wr = .ok (.string ⟨d.toArray⟩) wr := str_add wr [] d (by simp; omega)
          go_wp2
          go_roundw
          case rel => exact ⟨k + 1, d, by go_num, by rw [jnF_snoc HK.out, HAC.out, jn_first], by omega, rfl, by trivial⟩
          case measure => simp [intOf]; omega
        · have hbn2 : acc.isEmpty = false := by simpa using ha0
          have hLL := HL.out
          have hadd : (Op.stringOp .add (ByteArray.mk acc.toArray) ⟨#[45, 45, 45, 10]⟩).run Try.prog wr = .ok (.string ⟨(acc ++ [45, 45, 45, 10]).toArray⟩) wr := str_add wr acc [45, 45, 45, 10] (by simp; omega)
          have hadd2 : (Op.stringOp .add (ByteArray.mk (acc ++ [45, 45, 45, 10]).toArray) ⟨d.toArray⟩).run Try.prog wr = .ok (.string ⟨(acc ++ [45, 45, 45, 10] ++ d).toArray⟩) wr := str_add wr _ d (by simp; omega)
          clear hLL
          go_wp2
          go_roundw
          case rel => exact ⟨k + 1, acc ++ [45, 45, 45, 10] ++ d, by go_num, by rw [jnF_snoc HK.out, HAC.out, jn_more ha0 hd0, List.append_assoc], by omega, by simp, by trivial⟩
          case measure => simp [intOf]; omega
    · have h2' : ¬ (k : Int) < n := by omega
      have hT : ds.take k = ds := List.take_of_length_le (by rw [HN.out]; omega)
      have HE : Hid (jnF ds = acc) := by have := HAC.out; rw [hT] at this; exact this
      clear hT
      go_wp2
      go_ret
      exact ⟨by rw [HE.out]; rfl, rfl⟩
end Go.Proofs.Ytblohogcepfoeaa
