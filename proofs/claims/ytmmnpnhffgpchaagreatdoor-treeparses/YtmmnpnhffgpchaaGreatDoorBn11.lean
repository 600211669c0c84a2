import Derived.Test.YtmmnpnhffgpchaaGreatDoorBn10
import Derived.Test.YtmmnpnhffgpchaaGreatDoorLBuf
/-
  LinesOwn.
-/
namespace Go.Proofs.YtmmnpnhffgpchaaGreatDoor.Ln
open Go.RowKit
set_option linter.unusedVariables false
set_option linter.unusedSimpArgs false
theorem oct_zL (l : List UInt8) : Octets (zL l) := fun i => by
  by_cases h : i < l.length
  · have : (zL l).getD i 0 = (l[i].toNat : Int) := by simp [zL, List.getD, h]
    rw [this]
    have := l[i].toNat_lt
    omega
  · have : (zL l).getD i 0 = 0 := by simp [zL, List.getD, h]
    rw [this]; omega
theorem linF_few : ∀ (n : Nat) (r : List UInt8) (num docs : Nat), (linF n r num docs).length ≤ r.length + 1
  | 0, r, num, docs => by simp [linF]
  | n + 1, r, num, docs => by
    rw [linF]
    split
    · simp
    · rename_i hr
      split
      · simp
      · have h1 := linF_few n (Lib.cut r [10]).2.1 (num + 1) (docs + docN (readF (Lib.cut r [10]).1 num).1)
        have h2 := readF_few (Lib.cut r [10]).1 num
        have h3 := cut10 r hr
        rw [List.length_append, List.length_map]
        omega
theorem toks_few (l : List UInt8) : (toksOf (scnF l)).length ≤ 65537 := by
  have : (scnF l).length ≤ 65537 := by
    unfold scnF
    split
    · simp
    · have := linF_few (l.length + 1) l 1 0
      unfold allF
      omega
  unfold toksOf
  split
  · simp
  · simpa using this
/-- Scan, its answer named. -/
theorem scan_call (a : Option Addr) (n cap : Nat) (l : List UInt8) (w : World) (hn : l.length = n) (hB : Has w a (zL l)) (hl : n ≤ maxLen) (hm : HasM w) (T : List Tk) (fd fl fe : Int) (N : Nat) (hN : T.length = N) (hT : toksOf (scnF l) = T) (hF : fltOf (scnF l) = (fd, fl, fe)) :
    Calls Tryz.prog 10 #[.slice a n cap] w fun e w' => ∃ av cv, e = .returned (.tuple #[.slice av N cv, .agg #[.int .i64 fd, .int .i64 fl, .int .i64 fe]]) ∧ w'.ownsRow w.heap.size 52 5 (.slice av N cv) N (T.flatMap Tk.row) ∧ (0 < N → ∃ g, av = some ⟨g, 0, none⟩) ∧ Below w.heap.size w w' := by
  refine (scan_any a n cap l w hn hB hl hm).mono ?_
  rintro e w' ⟨tv, rfl, hrow, hb⟩
  rw [hT, hN] at hrow
  obtain ⟨av, cv, rfl, hav⟩ := own_sh hrow
  exact ⟨av, cv, by rw [hF], hrow, hav, hb⟩
/-- No bytes, in a block of their own. -/
theorem buf_none (w : World) : Buf (w.alloc (.cells #[] 5 (0, 0))) w.heap.size (.slice (some ⟨w.heap.size, 0, none⟩) 0 0) [] :=
  ⟨Octets.nil, .inr ⟨_, 0, 0, #[], rfl, Nat.le_refl _, Go.heap_alloc_new w _, by simp, by decide, by simp, fun j hj => by simp at hj⟩⟩
theorem below_buf {w w2 : World} {o : Obj} {v : Value} (h : (w.alloc o).grownBy w2 v.ownBlock) (hv : ∀ k, v.ownBlock = some k → w.heap.size ≤ k) : Below w.heap.size w w2 :=
  ((Below.refl _ w).alloc (Nat.le_refl _) _).grown h (by simp) hv
/-- Bytes handed on, written over: all else is as it was. -/
structure Ovw (w4 wr : World) (ao : Option Addr) (n : Nat) : Prop where
  oth : ∀ k, (∀ x, ao = some x → k ≠ x.block) → wr.heap[k]? = w4.heap[k]?
  size : wr.heap.size = w4.heap.size
  cel : ∀ j, j < n → ∃ g off c cur, ao = some ⟨g, off, none⟩ ∧ 0 ≤ c ∧ c ≤ 255 ∧ wr.heap[g]? = some (.cells cur 5 (0, 0)) ∧ cur[off + j]? = some (.int .u8 c)
theorem Ovw.start {w : World} {base : Nat} {ao : Option Addr} {c n : Nat} {zs : List Int} (hn : zs.length = n) (h : Buf w base (.slice ao n c) zs) : Ovw w w ao n := by
  subst hn
  refine ⟨fun _ _ => rfl, rfl, fun j hj => ?_⟩
  rcases h.2 with ⟨_, rfl⟩ | ⟨g, off, cap, cur, hv, _, hg, _, _, _, h4⟩
  · simp at hj
  · cases hv
    have hc := h4 j hj
    rw [cell_block hg] at hc
    exact ⟨g, off, _, cur, rfl, (h.1 j).1, (h.1 j).2, hg, hc⟩
theorem Ovw.put {w4 wr : World} {g off n i : Nat} {c : Int} (h : Ovw w4 wr (some ⟨g, off, none⟩) n) (h0 : 0 ≤ c) (h1 : c ≤ 255) : Ovw w4 (wr.setCell ⟨g, off + i, none⟩ (.int .u8 c)) (some ⟨g, off, none⟩) n := by
  refine ⟨fun k hk => (heap_setCell_other wr ⟨g, off + i, none⟩ k _ (hk ⟨g, off, none⟩ rfl)).trans (h.oth k hk), by simpa using h.size, fun j hj => ?_⟩
  obtain ⟨g', off', c', cur, he, a0, a1, hg, hc⟩ := h.cel j hj
  cases he
  by_cases e : j = i
  · subst e
    refine ⟨g, off, c, _, rfl, h0, h1, heap_setCell_same wr g (off + j) _ _ _ hg, ?_⟩
    have := (Array.getElem?_eq_some_iff.1 hc).1
    simp [this]
  · refine ⟨g, off, c', _, rfl, a0, a1, heap_setCell_same wr g (off + i) _ _ _ hg, ?_⟩
    rw [Array.getElem?_setIfInBounds_ne (by omega)]
    exact hc
/-- A list of tokens, written over from its beginning. -/
structure Otk (w4 wr : World) (base : Nat) (v : Value) (N i : Nat) (T : List Tk) : Prop where
  oth : ∀ k, v.ownBlock ≠ some k → wr.heap[k]? = w4.heap[k]?
  size : wr.heap.size = w4.heap.size
  row : ∃ xs, wr.ownsRow base 52 5 v N xs ∧ ∀ j, i * 5 ≤ j → xs[j]? = (T.flatMap Tk.row)[j]?
theorem Otk.put {w4 wr : World} {base g N i c : Nat} {T : List Tk} (h : Otk w4 wr base (.slice (some ⟨g, 0, none⟩) N c) N i T) (hi : i < N) (v0 v1 v2 v3 v4 : Value) :
    Otk w4 (((((wr.setCell ⟨g, i * 5, none⟩ v0).setCell ⟨g, i * 5 + 1, none⟩ v1).setCell ⟨g, i * 5 + 2, none⟩ v2).setCell ⟨g, i * 5 + 3, none⟩ v3).setCell ⟨g, i * 5 + 4, none⟩ v4) base (.slice (some ⟨g, 0, none⟩) N c) N (i + 1) T := by
  have hne : ∀ k, (Value.slice (some ⟨g, 0, none⟩) N c).ownBlock ≠ some k → k ≠ g := fun k hk e => hk (by rw [e]; rfl)
  refine ⟨fun k hk => ?_, by simpa using h.size, ?_⟩
  · exact (heap_setCell_other _ _ _ _ (hne k hk)).trans ((heap_setCell_other _ _ _ _ (hne k hk)).trans ((heap_setCell_other _ _ _ _ (hne k hk)).trans ((heap_setCell_other _ _ _ _ (hne k hk)).trans ((heap_setCell_other _ _ _ _ (hne k hk)).trans (h.oth k hk)))))
  · obtain ⟨xs, hr, hx⟩ := h.row
    rcases hr.2 with ⟨hv, _⟩ | ⟨g', cap, cur, hv, hb, hg, h1, h2, h3, h4⟩
    · cases hv
    · cases hv
      have s1 := heap_setCell_same _ g (i * 5) _ _ v0 hg
      have s2 := heap_setCell_same _ g (i * 5 + 1) _ _ v1 s1
      have s3 := heap_setCell_same _ g (i * 5 + 2) _ _ v2 s2
      have s4 := heap_setCell_same _ g (i * 5 + 3) _ _ v3 s3
      have s5 := heap_setCell_same _ g (i * 5 + 4) _ _ v4 s4
      refine ⟨_, ⟨?_, .inr ⟨g, c, _, rfl, hb, s5, h1, h2, by simpa using h3, rfl⟩⟩, fun j hj => ?_⟩
      · simp
        omega
      · rw [← hx j (by omega), ← h4]
        simp only [List.getElem?_take, Array.getElem?_toList]
        split
        · rw [Array.getElem?_setIfInBounds_ne (by omega), Array.getElem?_setIfInBounds_ne (by omega), Array.getElem?_setIfInBounds_ne (by omega), Array.getElem?_setIfInBounds_ne (by omega), Array.getElem?_setIfInBounds_ne (by omega)]
        · rfl
theorem Otk.drew {w4 wr : World} {base : Nat} {v : Value} {N i : Nat} {T : List Tk} (h : Otk w4 wr base v N i T) (q : Nat) : Otk w4 (wr.drewN q) base v N i T :=
  ⟨fun k hk => (by simpa using h.oth k hk), by simpa using h.size, by
    obtain ⟨xs, h1, h2⟩ := h.row
    exact ⟨xs, own_blk h1 (fun k hk => by simp), h2⟩⟩
theorem Otk.cell {w4 wr : World} {base g N i c : Nat} {T : List Tk} (h : Otk w4 wr base (.slice (some ⟨g, 0, none⟩) N c) N i T) (t : Tk) (ht : T[i]? = some t) (j : Nat) (u : Value) (hj : j < 5) (hu : t.row[j]? = some u) : wr.cell? ⟨g, i * 5 + j, none⟩ = some u ∧ wr.frozen? ⟨g, i * 5 + j, none⟩ = false := by
  obtain ⟨xs, hr, hx⟩ := h.row
  have := hr.cells rfl (i * 5 + j) u (by rw [hx _ (by omega), flat_row T i j t ht hj]; exact hu)
  rw [Go.WideShapes.add_plain, Nat.zero_add] at this
  refine ⟨this, ?_⟩
  rcases hr.2 with ⟨hv, _⟩ | ⟨g', cap, cur, hv, hb, hg, _⟩
  · cases hv
  · cases hv
    simp [World.frozen?, hg]
end Go.Proofs.YtmmnpnhffgpchaaGreatDoor.Ln

/-
  A token's text is no longer than its line.
-/
namespace Go.Proofs.YtmmnpnhffgpchaaGreatDoor.Ln
open Go.RowKit
set_option linter.unusedVariables false
set_option linter.unusedSimpArgs false
theorem unqD_txt (l : List UInt8) : ∀ (n k : Nat) (acc t : List UInt8) (m : Nat), unqD l n k acc = some (t, m) → t.length + k ≤ acc.length + m
  | 0, k, acc, t, m, h => by cases h
  | n + 1, k, acc, t, m, h => by
    rw [unqD] at h
    split at h
    · cases h
    · split at h
      · cases h; omega
      · split at h
        · split at h
          · cases h
          · rename_i hE
            have := unqD_txt l n _ _ t m h
            have := escF_pos hE
            simp at *; omega
        · have := unqD_txt l n _ _ t m h
          simp at this; omega
theorem unqS_txt (l : List UInt8) : ∀ (n k : Nat) (acc t : List UInt8) (m : Nat), unqS l n k acc = some (t, m) → t.length + k ≤ acc.length + m
  | 0, k, acc, t, m, h => by cases h
  | n + 1, k, acc, t, m, h => by
    rw [unqS] at h
    split at h
    · cases h
    · split at h
      · split at h
        · have := unqS_txt l n _ _ t m h
          simp at this; omega
        · cases h; omega
      · have := unqS_txt l n _ _ t m h
        simp at this; omega
theorem unqF_txt {l t : List UInt8} {m : Nat} (h : unqF l = some (t, m)) : t.length ≤ l.length := by
  have hm := (unqF_le h).2
  unfold unqF at h
  split at h
  · cases h
  · split at h
    · have := unqD_txt _ _ _ _ _ _ h; simp at this hm ⊢; omega
    · have := unqS_txt _ _ _ _ _ _ h; simp at this hm ⊢; omega
theorem keyF_txt {l t : List UInt8} {m : Nat} (h : keyF l = some (t, m)) : t.length ≤ l.length := by
  unfold keyF at h
  split at h
  · cases h
  · split at h
    · cases h
    · rename_i c r t' k hx
      split at h
      · cases h
        split at hx
        · exact unqF_txt hx
        · split at hx
          · cases hx; simp; omega
          · cases hx
      · cases h
/-- the texts of tokens are so short -/
def Shrt (m : Nat) (ts : List Tk) : Prop := ∀ t ∈ ts, t.text.length ≤ m
theorem Shrt.nil (m : Nat) : Shrt m [] := fun t h => by cases h
theorem Shrt.snoc {m : Nat} {ts : List Tk} {t : Tk} (h : Shrt m ts) (ht : t.text.length ≤ m) : Shrt m (ts ++ [t]) := fun x hx => by
  rcases List.mem_append.1 hx with h1 | h1
  · exact h x h1
  · simp at h1; subst h1; exact ht
theorem qtdF_txt {num : Int} {l : List UInt8} {p m : Nat} {ts : List Tk} (h : Shrt m ts) (hm : l.length ≤ m) : Shrt m (qtdF num l p ts).1 := by
  unfold qtdF
  split
  · exact Shrt.nil _
  · rename_i c r hd
    split
    · exact Shrt.nil _
    · rename_i t k hu
      split
      · refine h.snoc ?_
        have h1 := unqF_txt hu
        have h2 := congrArg List.length hd
        simp only [List.length_drop] at h2
        show t.length ≤ m
        omega
      · exact Shrt.nil _
theorem scaF_txt {num : Int} {l : List UInt8} {p m : Nat} {ts : List Tk} (h : Shrt m ts) (hm : l.length ≤ m) : Shrt m (scaF num l p ts).1 := by
  unfold scaF
  split
  · exact Shrt.nil _
  · rename_i c r hd
    split
    · exact qtdF_txt h hm
    · split
      · exact Shrt.nil _
      · rename_i d t hp
        refine h.snoc ?_
        have h1 := plnF_le (c :: r)
        rw [hp] at h1
        have h2 := congrArg List.length hd
        simp only [List.length_drop] at h2
        show (d :: t).length ≤ m
        omega
theorem conF_txt {num : Int} {l : List UInt8} {m : Nat} (hm : l.length ≤ m) : ∀ (n p : Nat) (ts : List Tk), Shrt m ts → Shrt m (conF num l n p ts).1
  | 0, p, ts, h => Shrt.nil _
  | n + 1, p, ts, h => by
    rw [conF]
    split
    · exact h
    · rename_i c r hd
      have h2 := congrArg List.length hd
      simp only [List.length_drop] at h2
      split
      · exact h
      · split
        · exact conF_txt hm n _ _ (h.snoc (Nat.zero_le _))
        · split
          · exact scaF_txt h hm
          · rename_i t k hk
            have h1 := keyF_txt hk
            have ht : t.length ≤ m := by omega
            split
            · exact h.snoc ht
            · exact scaF_txt (h.snoc ht) hm
theorem readF_txt (l : List UInt8) (num : Int) (m : Nat) (hm : l.length ≤ m) : Shrt m (readF l num).1 := by
  unfold readF
  split
  · exact Shrt.nil _
  · split
    · exact (Shrt.nil m).snoc (Nat.zero_le _)
    · exact conF_txt hm _ _ _ (Shrt.nil _)
theorem cutn_le (l : List UInt8) : (Lib.cut l [10]).1.length ≤ l.length ∧ (Lib.cut l [10]).2.1.length ≤ l.length := by
  unfold Lib.cut
  split
  · simp; omega
  · simp
theorem linF_txt (m : Nat) : ∀ (n : Nat) (r : List UInt8) (num docs : Nat), r.length ≤ m → Shrt m ((linF n r num docs).map (·.tk))
  | 0, r, num, docs, h => Shrt.nil _
  | n + 1, r, num, docs, h => by
    rw [linF]
    split
    · exact Shrt.nil _
    · split
      · exact (Shrt.nil m).snoc (Nat.zero_le _)
      · have hc := cutn_le r
        intro t ht
        rw [List.map_append, List.mem_append] at ht
        rcases ht with ht | ht
        · simp only [List.map_map, List.mem_map, Function.comp] at ht
          obtain ⟨x, hx, rfl⟩ := ht
          exact readF_txt _ _ m (by omega) x hx
        · exact linF_txt m n _ _ _ (by omega) t ht
theorem toks_txt (l : List UInt8) : Shrt l.length (toksOf (scnF l)) := by
  unfold toksOf
  split
  · exact Shrt.nil _
  · unfold scnF
    split
    · intro t ht
      simp [longT, zTk] at ht
      subst ht
      exact Nat.zero_le _
    · exact linF_txt _ _ _ _ _ (Nat.le_refl _)
end Go.Proofs.YtmmnpnhffgpchaaGreatDoor.Ln
