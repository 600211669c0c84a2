/-
  split and join: a number's eight bytes.
-/
import Derived.Test.YteeclghhoioapaaDoorAr
import Derived.ChangeKeysEq
import Derived.Shelf.Abstract
import Derived.Lib.AppendStr
namespace Go.Proofs.YteeclghhoioapaaDoor
open Go.RowKit
set_option linter.unusedVariables false
set_option linter.unusedSimpArgs false
set_option maxRecDepth 100000
abbrev arr8 (a b c d e f g h : Int) : Value := .agg #[.int .u8 a, .int .u8 b, .int .u8 c, .int .u8 d, .int .u8 e, .int .u8 f, .int .u8 g, .int .u8 h]
/-- A number's eight bytes, as an array. -/
def arrN (n : Int) : Value := .agg (vals (digs 8 n)).toArray
theorem arrN_eq (n : Int) : arrN n = arr8 (n / 72057594037927936 % 256) (n / 281474976710656 % 256) (n / 1099511627776 % 256) (n / 4294967296 % 256) (n / 16777216 % 256) (n / 65536 % 256) (n / 256 % 256) (n % 256) := by
  simp [arrN, digs, vals]
set_option maxHeartbeats 2000000 in
theorem nsplit_any (n : Int) (w : World) (h0 : 0 ≤ n) (h1 : n ≤ 9223372036854775807) :
    Calls Tryd.prog 56 #[.int .i64 n] w fun e w' => e = .returned (arrN n) ∧ Below w.heap.size w w' := by
  rw [arrN_eq]
  have e7 : n / 72057594037927936 % 256 = n / 72057594037927936 := by omega
  go_enter Tryd.func56, Tryd.ntmps56
  go_wp2
  refine wp_loop_rounds 9 ?_
  iterate 9 (rw [rounds_succ]; go_wp2)
  exact bodyPost_ret (v := arr8 (n / 72057594037927936 % 256) (n / 281474976710656 % 256) (n / 1099511627776 % 256) (n / 4294967296 % 256) (n / 16777216 % 256) (n / 65536 % 256) (n / 256 % 256) (n % 256)) (by simp [results, Tryd.results56, go_sem, e7]) rfl ⟨rfl, ((Below.refl _ _).alloc (Nat.le_refl _) _).alloc (by simp) _⟩

theorem digs_drop (w d : Nat) (n : Int) : (digs (d + w) n).drop d = digs w n := by
  induction d with
  | zero => simp
  | succ d ih => rw [show d + 1 + w = (d + w) + 1 by omega, digs, List.drop_succ_cons, ih]
theorem vals_drop (d : Nat) (l : List Int) : (vals l).drop d = vals (l.drop d) := by simp [vals]
/-- The last bytes of an array of eight. -/
theorem tail_cells {w : World} {B d : Nat} {zs : List Int} {t : TypeId} {fr : Nat × Nat} (hb : w.heap[B]? = some (.cells (vals zs).toArray t fr)) : ∀ j u, (vals (zs.drop d))[j]? = some u → w.cell? ((⟨B, d, none⟩ : Addr).add j) = some u := fun j u hu => by
  have e : (⟨B, d, none⟩ : Addr).add j = (⟨B, 0, none⟩ : Addr).add (d + j) := by
    simp only [Addr.add]
    split <;> split <;> simp_all
  rw [e]
  refine World.news_of_block hb (d + j) u ?_
  rw [← vals_drop, List.getElem?_drop] at hu
  simpa using hu
theorem ows_keep {w w' : World} {base : Nat} {e : TypeId} {size : Nat} {v : Value} {n : Nat} {xs : List Value} (h : w.ownsRow base e size v n xs) (hb : Below w.heap.size w w') : w'.ownsRow base e size v n xs := by
  refine ⟨h.1, ?_⟩
  rcases h.2 with h | ⟨g, cap, cur, hv, hbg, hgg, rest⟩
  · exact .inl h
  · exact .inr ⟨g, cap, cur, hv, hbg, (hb.block g (Array.getElem?_eq_some_iff.1 hgg).1).trans hgg, rest⟩
theorem ows_base {w : World} {base : Nat} {e : TypeId} {size : Nat} {v : Value} {n : Nat} {xs : List Value} (h : w.ownsRow base e size v n xs) : ∀ k, v.ownBlock = some k → base ≤ k := by
  intro k hk
  rcases h.2 with ⟨rfl, _⟩ | ⟨g, cap, cur, rfl, hbg, _⟩
  · cases hk
  · cases hk; exact hbg
/-- A row of bytes of one's own. -/
def Rw (w : World) (base : Nat) (v : Value) (zs : List Int) : Prop := w.ownsRow base 5 1 v zs.length (vals zs)
theorem Rw.keep {w w' : World} {base : Nat} {v : Value} {zs : List Int} (h : Rw w base v zs) (hb : Below w.heap.size w w') : Rw w' base v zs := ows_keep h hb
theorem Rw.nil (w : World) (base : Nat) : Rw w base (.slice none 0 0) [] := ⟨rfl, .inl ⟨rfl, rfl⟩⟩
theorem Rw.has {w : World} {base : Nat} {v : Value} {zs : List Int} (h : Rw w base v zs) : ∃ a cap, v = .slice a zs.length cap ∧ Has w a zs ∧ zs.length ≤ cap ∧ cap ≤ maxLen ∧ (a = none → cap = 0) ∧ ∀ x, a = some x → base ≤ x.block := by
  rcases h.2 with ⟨hv, h0⟩ | ⟨g, cap, cur, hv, hbg, hgg, h1, h2, _⟩
  · have : zs = [] := List.eq_nil_of_length_eq_zero h0
    subst this
    exact ⟨none, 0, hv, .inl ⟨rfl, rfl⟩, Nat.le_refl _, Nat.zero_le _, fun _ => rfl, fun x hx => by cases hx⟩
  · refine ⟨some ⟨g, 0, none⟩, cap, hv, ?_, h1, h2, fun h => (by cases h), fun x hx => by cases hx; exact hbg⟩
    have h' : w.ownsRow base 5 1 v zs.length (vals zs) := h
    subst hv
    exact own_has h'
theorem Rw.app {w : World} {base : Nat} {v : Value} {xs zs : List Int} {k m : Nat} (h : w.ownsRow base 5 1 v (k + m) (vals xs ++ vals zs)) (hk : xs.length = k) (hm : zs.length = m) : Rw w base v (xs ++ zs) := by
  unfold Rw; rw [vals_append, List.length_append, hk, hm]; exact h
theorem Below.of_rows {base : Nat} {w w1 w2 : World} {v : Value} (h : Below base w w1) (hb : base ≤ w.heap.size) (hg : w1.grownBy w2 v.ownBlock) (hv : ∀ k, v.ownBlock = some k → base ≤ k) : Below base w w2 :=
  h.grown hg (Nat.le_trans hb h.size) hv
/-- The block of eight bytes. -/
theorem sp_news (w : World) (n : Int) (wd d : Nat) (A : Array Value) (hd : 8 = d + wd) (hA : Hid ((vals (digs 8 n)).toArray = A)) :
    ∀ j u, (vals (digs wd n))[j]? = some u → (w.alloc (.cells A 98)).cell? ((⟨w.heap.size, d, none⟩ : Addr).add j) = some u := by
  rw [← hA.out, ← digs_drop wd d n, ← hd]
  exact tail_cells (heap_alloc_new w _)
set_option maxHeartbeats 2000000 in
theorem appN_any (base : Nat) (v : Value) (xs : List Int) (n : Int) (wd : Nat) (w : World) (hown : Rw w base v xs) (hb : base ≤ w.heap.size) (hw : wd = 1 ∨ wd = 2 ∨ wd = 4 ∨ wd = 8) (h0 : 0 ≤ n) (h1 : n ≤ 9223372036854775807) (hk : xs.length ≤ 2000000) :
    Calls Tryd.prog 43 #[v, .int .i64 n, .int .i64 wd] w fun e w' => ∃ v', e = .returned v' ∧ Rw w' base v' (xs ++ digs wd n) ∧ Below base w w' := by
  obtain ⟨i0, hi, hz0, hz1, hz2⟩ := info_parts Tryd.info5
  have HO : Hid (Rw w base v xs) := hown
  have HV : Hid (∀ k, v.ownBlock = some k → base ≤ k) := ows_base hown
  clear hown
  have HA : Hid ((vals (digs 8 n)).toArray = #[.int .u8 (n / 72057594037927936 % 256), .int .u8 (n / 281474976710656 % 256), .int .u8 (n / 1099511627776 % 256), .int .u8 (n / 4294967296 % 256), .int .u8 (n / 16777216 % 256), .int .u8 (n / 65536 % 256), .int .u8 (n / 256 % 256), .int .u8 (n % 256)]) := by
    show _ = _; simp [digs, vals]
  have HL : Hid ((digs wd n).length = wd) := digs_length wd n
  have HG : Hid ((xs ++ digs wd n) = (xs ++ digs wd n)) := rfl
  obtain ⟨D, hD⟩ : ∃ D, digs wd n = D := ⟨_, rfl⟩
  rcases hw with rfl | rfl | rfl | rfl
  all_goals
    go_enter Tryd.func43, Tryd.ntmps43
    go_wp2_with (first
      | (go_at_call 56; refine (nsplit_any n _ h0 h1).mono ?_; rintro e w1 ⟨rfl, hb1⟩; have HB1 : Hid (Below w.heap.size w w1) := hb1; clear hb1; rw [arrN_eq])
      | (at_builtin; refine wpList_append_own _ rfl (.tmp 10) (.tmp 13) 24 rfl base 5 i0 (.int .u8 0) 1 1 Tryd.underlying24 hi hz0 hz1 hz2 rfl (by decide) v xs.length (vals xs) rfl ((HO.out.keep HB1.out).keep ((Below.refl _ _).alloc (Nat.le_refl _) _)) _ _ _ (vals D) rfl (by rw [vals_length, ← hD, HL.out]) (by rw [← hD]; exact sp_news w1 n _ _ _ rfl HA) (vals_one _) (by unfold maxLen; omega) (by omega) (by have := HB1.out.size; simp; omega) ?_; intro v2 w2 hown2 hgrow2 hnil2))
    go_ret
    refine ⟨v2, rfl, by rw [hD]; exact Rw.app hown2 rfl (by rw [← hD]; exact HL.out), ?_⟩
    exact Below.of_rows ((HB1.out.mono hb).alloc (Nat.le_trans hb HB1.out.size) _) hb hgrow2 HV.out
theorem sb_vals (s : ByteArray) : Go.Lib.strCells s = vals (sb s) := by
  simp [Go.Lib.strCells, vals, sb]
set_option maxHeartbeats 2000000 in
theorem appT_any (base : Nat) (v : Value) (xs : List Int) (s : ByteArray) (wd : Nat) (w : World) (hown : Rw w base v xs) (hb : base ≤ w.heap.size) (hw : wd = 1 ∨ wd = 2 ∨ wd = 4 ∨ wd = 8) (h1 : s.size ≤ 2000000) (hk : xs.length ≤ 1000000) :
    Calls Tryd.prog 44 #[v, .string s, .int .i64 wd] w fun e w' => ∃ v', e = .returned v' ∧ Rw w' base v' (xs ++ (digs wd s.size ++ sb s)) ∧ Below base w w' := by
  obtain ⟨i0, hi, hz0, hz1, hz2⟩ := info_parts Tryd.info5
  have HO : Hid (Rw w base v xs) := hown
  clear hown
  have HL : Hid ((xs ++ digs wd s.size).length = xs.length + wd) := by show _ = _; rw [List.length_append, digs_length]
  have hwd : wd ≤ 8 := by omega
  go_enter Tryd.func44, Tryd.ntmps44
  go_wp2_with (first
    | (go_at_call 43; refine (appN_any base v xs s.size wd _ HO.out hb hw (by omega) (by omega) (by omega)).mono ?_; rintro e w1 ⟨v1, rfl, hr1, hb1⟩; have HR1 : Hid (Rw w1 base v1 (xs ++ digs wd s.size)) := hr1; have HB1 : Hid (Below base w w1) := hb1; clear hr1 hb1)
    | (at_builtin; go_loud (refine Go.Lib.wpList_append_own_string _ rfl (.tmp 11) (.tmp 12) 24 9 rfl base 5 i0 Tryd.underlying24 Tryd.underlying9 hi hz0 hz1 hz2 v1 (xs ++ digs wd s.size).length (vals (xs ++ digs wd s.size)) rfl HR1.out s rfl (by rw [HL.out]; unfold maxLen; omega) (by rw [HL.out]; omega) (Nat.le_trans hb HB1.out.size) ?_; intro v2 w2 hown2 hgrow2 hnil2)))
  go_ret
  refine ⟨v2, rfl, ?_, ?_⟩
  · rw [← List.append_assoc]
    rw [sb_vals] at hown2
    exact Rw.app hown2 rfl (sb_length s)
  · exact Below.of_rows HB1.out hb hgrow2 (ows_base HR1.out)
end Go.Proofs.YteeclghhoioapaaDoor
