/-
  The document's own reader: a text's lines.
-/
import Derived.Test.YtjmgngocpokpgaaDoorAlm
import Derived.Test.YtjmgngocpokpgaaDoorSca
import Derived.Test.YtjmgngocpokpgaaDoorOw
namespace Go.Proofs.YtjmgngocpokpgaaDoor
open Go.RowKit
set_option linter.unusedVariables false
set_option linter.unusedSimpArgs false
theorem Tryd.info9 : (Tryd.prog.info? 9).map (fun i => (i.zero, i.size, i.bytes)) = some (some (.string ⟨#[]⟩), 1, 16) := by kernel_rfl
/-- A text's lines. -/
def lsF : Nat → List UInt8 → List (List UInt8)
  | 0, _ => []
  | n + 1, r => if r = [] then [] else (Lib.cut r [10]).1 :: lsF n (Lib.cut r [10]).2.1
def strs (X : List (List UInt8)) : List Value := X.map fun x => .string ⟨x.toArray⟩
theorem strs_one (X : List (List UInt8)) : ∀ u ∈ strs X, u.oneCell' = true := by
  intro u hu
  obtain ⟨x, _, rfl⟩ := List.mem_map.1 hu
  rfl
theorem ls_at {r a b : List UInt8} {m : Nat} (hr : r = a ++ 10 :: b) (ha : ¬ (10 : UInt8) ∈ a) : lsF (m + 1) r = a :: lsF m b := by
  subst hr
  rw [lsF, if_neg (by simp), cut_at ha]
theorem ls_no {r : List UInt8} {m : Nat} (hr : r ≠ []) (ha : ¬ (10 : UInt8) ∈ r) : lsF (m + 1) r = [r] := by
  rw [lsF, if_neg hr, cut_no ha]
  cases m <;> simp [lsF]
theorem ls_nil (m : Nat) : lsF m [] = [] := by cases m <;> simp [lsF]
theorem drop_split {l : List UInt8} {f k : Nat} {c : UInt8} (hf : f ≤ k) (h : l[k]? = some c) : l.drop f = (l.drop f).take (k - f) ++ c :: l.drop (k + 1) := by
  have h1 : (l.drop f).drop (k - f) = c :: l.drop (k + 1) := by
    rw [List.drop_drop, show f + (k - f) = k by omega]
    exact drop_cons h
  rw [← h1, List.take_append_drop]
theorem mem_more {l : List UInt8} {f k : Nat} {c : UInt8} (hf : f ≤ k) (h : l[k]? = some c) (hc : ¬ c = 10) (hn : ¬ (10 : UInt8) ∈ (l.drop f).take (k - f)) : ¬ (10 : UInt8) ∈ (l.drop f).take (k + 1 - f) := by
  rw [show k + 1 - f = k - f + 1 by omega, List.take_add_one, List.getElem?_drop, show f + (k - f) = k by omega, h]
  simp
  exact ⟨by simpa using hn, fun e => hc e.symm⟩
theorem has_mid {w : World} {x : Addr} {l : List UInt8} (h : Has w (some x) (zL l)) (f k : Nat) (hfk : f ≤ k) (hk : k ≤ l.length) : Has w (some (x.add f)) (zL ((l.drop f).take (k - f))) := by
  rcases h with ⟨h, _⟩ | ⟨y, hy, h⟩
  · cases h
  · cases hy
    refine .inr ⟨_, rfl, fun j hj => ?_⟩
    simp [zL_length] at hj
    have := h (f + j) (by simp [zL_length]; omega)
    rw [add_add, this]
    congr 2
    simp only [List.getD, zL]
    simp only [List.getElem?_map, List.getElem?_take, List.getElem?_drop]
    rw [if_pos (by omega)]
theorem zL_get {l : List UInt8} {k : Nat} {c : UInt8} (h : l[k]? = some c) : (zL l).getD k 0 = (c.toNat : Int) := by
  simp [List.getD, zL, h]
theorem lines_fin {w wr w3 : World} {X : List (List UInt8)} {b : List UInt8} {NX g3 c3 : Nat} {v : Value} {o : Obj} (hN : X.length = NX) (hW : Below w.heap.size w wr) (hX : wr.ownsRow w.heap.size 9 1 v NX (strs X))
    (hown : w3.ownsRow w.heap.size 9 1 (.slice (some ⟨g3, 0, none⟩) (NX + 1) c3) (NX + 1) (strs X ++ strs [b])) (hg : (wr.alloc o).grownBy w3 v.ownBlock) :
    w3.ownsRow w.heap.size 9 1 (.slice (some ⟨g3, 0, none⟩) (NX + 1) c3) (X ++ [b]).length (strs (X ++ [b])) ∧ Below w.heap.size w w3 := by
  have hs := hW.size
  refine ⟨?_, (hW.alloc (by omega) _).grown hg (by simp; omega) (fun k hk => (hX.lt k hk).1)⟩
  have : strs (X ++ [b]) = strs X ++ strs [b] := by simp [strs]
  rw [this, List.length_append, hN]
  exact hown
set_option maxRecDepth 100000 in
set_option maxHeartbeats 8000000 in
theorem lines_ref (a : Option Addr) (n cap : Nat) (l : List UInt8) (w : World) (hn : l.length = n) (hB : Has w a (zL l)) (hl : n ≤ 65536) (hcap : n ≤ cap) :
    Calls Tryd.prog 22 #[.slice a n cap] w fun e w' => ∃ v, e = .returned v ∧ w'.ownsRow w.heap.size 9 1 v (lsF (l.length + 1) l).length (strs (lsF (l.length + 1) l)) ∧ Below w.heap.size w w' := by
  obtain ⟨i9, hi9, hy0, hy1, hy2⟩ := info_parts Tryd.info9
  obtain ⟨R, hR⟩ : ∃ R, lsF (l.length + 1) l = R := ⟨_, rfl⟩
  rw [hR]
  have HR := hide2 hR
  clear hR
  rcases a with _ | x
  · have hl0 : l = [] := by
      rcases hB with ⟨_, h⟩ | ⟨y, hy, _⟩
      · simpa [zL] using h
      · cases hy
    subst hl0
    obtain rfl : n = 0 := hn.symm
    clear hn
    have hR0 : R = [] := by rw [← HR.out, ls_nil]
    subst hR0
    go_enter Tryd.func22, Tryd.ntmps22
    go_wp2
    go_loopw [3, 4, 5] (fun t3 t4 t wr => t3 = .slice none 0 0 ∧ t4 = .int .i64 0 ∧ t = .int .i64 0 ∧ wr = w) (fun _ _ _ _ => 0)
    case atStart => exact ⟨rfl, rfl, rfl, rfl⟩
    case round =>
      obtain ⟨rfl, rfl, rfl, rfl⟩ := hrel
      go_wp2
      go_ret
      exact ⟨_, rfl, World.ownsRow_nil _ _ _ _, Below.refl _ _⟩
  · have HB := hide2 hB
    have HN := hide2 hn
    clear hB hn
    go_enter Tryd.func22, Tryd.ntmps22
    go_wp2
    go_loopw [3, 4, 5] (fun t3 t4 t5 wr => ∃ (X : List (List UInt8)) (f k m : Nat), t4 = .int .i64 f ∧ t5 = .int .i64 k ∧ f ≤ k ∧ k ≤ n ∧ X.length ≤ f ∧ n - f < m ∧ Hid (wr.ownsRow w.heap.size 9 1 t3 X.length (strs X)) ∧ Hid (¬ (10 : UInt8) ∈ (l.drop f).take (k - f)) ∧ Hid (R = X ++ lsF m (l.drop f)) ∧ Hid (Below w.heap.size w wr)) (fun _ _ t5 _ => n - (intOf t5).toNat)
    case atStart => exact ⟨[], 0, 0, n + 1, rfl, rfl, by omega, by omega, by simp, by omega, World.ownsRow_nil _ _ _ _, (by simp : ¬ _), by show R = _; rw [← HR.out, HN.out]; rfl, Below.refl _ _⟩
    case round =>
      obtain ⟨X, f, k, m, rfl, rfl, hfk, hkn, hXf, hm, HX, H10, HS, HW⟩ := hrel
      have k0 : (0 : Int) ≤ k := by omega
      have f0 : (0 : Int) ≤ f := by omega
      rcases ik : l[k]? with _ | c
      · have hkl := List.getElem?_eq_none_iff.1 ik
        have hkn2 : k = n := by have := HN.out; omega
        have kl' : ¬ (k : Int) < n := by omega
        by_cases hfn : f < n
        · have hfn' : (f : Int) < n := by omega
          have HCV : Hid ((l.drop f).take (n - f) = l.drop f) := List.take_of_length_le (by rw [List.length_drop]; have := HN.out; omega)
          have hcv := str_has wr (some (x.add f)) (n - f) (cap - f) ((l.drop f).take (n - f)) (by rw [List.length_take, List.length_drop]; have := HN.out; omega) (has_mid (HB.out.of_below HW.out) f n (by omega) (by have := HN.out; omega))
          obtain ⟨NX, hNX⟩ : ∃ N, X.length = N := ⟨_, rfl⟩
          rw [hNX] at HX hXf
          have HNX := hide2 hNX
          clear hNX
          obtain ⟨b, hb⟩ : ∃ b, (l.drop f).take (n - f) = b := ⟨_, rfl⟩
          have HBb := hide2 hb
          rw [hb] at hcv
          clear hb
          have hsz := HW.out.size
          go_wp2_with (at_builtin; refine wpList_append_form _ rfl (.tmp 31) (.tmp 36) 51 rfl w.heap.size 9 i9 _ 1 16 Tryd.underlying51 hi9 hy0 hy1 hy2 rfl (by decide) u3 NX (strs X) rfl (HX.out.alloc _) ⟨wr.heap.size, 0, none⟩ 1 1 (strs [b]) rfl rfl (World.news_of_block (heap_alloc_new wr _)) (strs_one _) (by omega) (by unfold maxLen; omega) (by omega) (by simp; omega) ?_; intro g3 c3 w3 hown3 hgrow3; have HOW3 := hide2 hown3; have HGR3 := hide2 hgrow3; clear hown3 hgrow3)
          go_ret
          have e : R = X ++ [b] := by
            obtain ⟨m', rfl⟩ : ∃ m', m = m' + 1 := ⟨m - 1, by omega⟩
            have h10 := H10.out
            rw [hkn2] at h10
            rw [HCV.out] at h10
            rw [HS.out, ls_no (by intro e; have := congrArg List.length e; rw [List.length_drop] at this; simp at this; have := HN.out; omega) h10, ← HBb.out, HCV.out]
          rw [e]
          exact ⟨_, rfl, lines_fin HNX.out HW.out HX.out HOW3.out HGR3.out⟩
        · have hfn' : ¬ (f : Int) < n := by omega
          go_wp2
          go_ret
          refine ⟨_, rfl, ?_, HW.out⟩
          have hd : l.drop f = [] := List.drop_eq_nil_of_le (by have := HN.out; omega)
          have e := HS.out
          rw [hd, ls_nil, List.append_nil] at e
          rw [e]
          exact HX.out
      · have kl : k < n := by have := ix_lt ik; have := HN.out; omega
        have kl' : (k : Int) < n := by omega
        have hce := zL_get ik
        have hcell : wr.cell? (x.add k) = some (.int .u8 (c.toNat : Int)) := by
          rw [← hce]
          rcases HB.out.of_below HW.out with ⟨h, _⟩ | ⟨y, hy, h⟩
          · cases h
          · cases hy; exact h k (by rw [zL_length, HN.out]; exact kl)
        clear hce
        by_cases hc : (c.toNat : Int) = 10
        · have hc' : c = 10 := UInt8.toNat_inj.1 (by show c.toNat = 10; omega)
          have hcv := str_has wr (some (x.add f)) (k - f) (cap - f) ((l.drop f).take (k - f)) (by rw [List.length_take, List.length_drop]; have := HN.out; omega) (has_mid (HB.out.of_below HW.out) f k (by omega) (by have := HN.out; omega))
          obtain ⟨NX, hNX⟩ : ∃ N, X.length = N := ⟨_, rfl⟩
          rw [hNX] at HX hXf
          have HNX := hide2 hNX
          clear hNX
          obtain ⟨b, hb⟩ : ∃ b, (l.drop f).take (k - f) = b := ⟨_, rfl⟩
          obtain ⟨m', rfl⟩ : ∃ m', m = m' + 1 := ⟨m - 1, by omega⟩
          have HS2 : Hid (R = (X ++ [b]) ++ lsF m' (l.drop (k + 1))) := by
            show _ = _
            rw [HS.out, ls_at (hc' ▸ drop_split hfk ik) H10.out, hb, List.append_assoc]
            rfl
          rw [hb] at hcv
          clear hb HS
          have hsz := HW.out.size
          go_wp2_with (at_builtin; refine wpList_append_form _ rfl (.tmp 17) (.tmp 23) 51 rfl w.heap.size 9 i9 _ 1 16 Tryd.underlying51 hi9 hy0 hy1 hy2 rfl (by decide) u3 NX (strs X) rfl (HX.out.alloc _) ⟨wr.heap.size, 0, none⟩ 1 1 (strs [b]) rfl rfl (World.news_of_block (heap_alloc_new wr _)) (strs_one _) (by omega) (by unfold maxLen; omega) (by omega) (by simp; omega) ?_; intro g3 c3 w3 hown3 hgrow3; have HOW3 := hide2 hown3; have HGR3 := hide2 hgrow3; clear hown3 hgrow3)
          go_roundw
          case rel =>
            obtain ⟨hr, hb2⟩ := lines_fin HNX.out HW.out HX.out HOW3.out HGR3.out
            exact ⟨X ++ [b], k + 1, k + 1, m', by go_num, by go_num, by omega, by omega, by simp [HNX.out]; omega, by omega, hr, (by rw [Nat.sub_self]; simp : ¬ _), HS2, hb2⟩
          case measure => simp [intOf]; omega
        · have hc' : ¬ c = 10 := fun e => hc (by rw [e]; rfl)
          have HM := hide2 (mem_more hfk ik hc' H10.out)
          go_wp2_with fail
          go_roundw
          case rel => exact ⟨X, f, k + 1, m, by go_num, by go_num, by omega, by omega, hXf, hm, HX, HM, HS, HW⟩
          case measure => simp [intOf]; omega
end Go.Proofs.YtjmgngocpokpgaaDoor
