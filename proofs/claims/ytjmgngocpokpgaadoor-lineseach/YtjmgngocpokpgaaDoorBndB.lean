import Derived.Test.YtjmgngocpokpgaaDoorAlm
import Derived.Test.YtjmgngocpokpgaaDoorSca
import Derived.Test.YtjmgngocpokpgaaDoorOw
/-
  The document's own reader: a text's lines.
-/
namespace Go.Proofs.YtjmgngocpokpgaaDoor
open Go.RowKit
set_option linter.unusedVariables false
set_option linter.unusedSimpArgs false
theorem Tryd.info9 : (Tryd.prog.info? 9).map (fun i => (i.zero, i.size, i.bytes)) = some (some (.string ⟨#[]⟩), 1, 16) := by kernel_rfl
/-- A text's lines. -/
def lsF : Nat → List UInt8 → List (List UInt8)
  | 0, _ => []
  | n + 1, r => if r = [] then [] else (Lib.cut r [10]).1 :: lsF n (Lib.cut r [10]).2.1
def strs (X : List (List UInt8)) : List Value := X.map fun x => .string ⟨x.toArray⟩
theorem strs_one (X : List (List UInt8)) : ∀ u ∈ strs X, u.oneCell' = true := by
  intro u hu
  obtain ⟨x, _, rfl⟩ := List.mem_map.1 hu
  rfl
theorem ls_at {r a b : List UInt8} {m : Nat} (hr : r = a ++ 10 :: b) (ha : ¬ (10 : UInt8) ∈ a) : lsF (m + 1) r = a :: lsF m b := by
  subst hr
  rw [lsF, if_neg (by simp), cut_at ha]
theorem ls_no {r : List UInt8} {m : Nat} (hr : r ≠ []) (ha : ¬ (10 : UInt8) ∈ r) : lsF (m + 1) r = [r] := by
  rw [lsF, if_neg hr, cut_no ha]
  cases m <;> simp [lsF]
theorem ls_nil (m : Nat) : lsF m [] = [] := by cases m <;> simp [lsF]
theorem drop_split {l : List UInt8} {f k : Nat} {c : UInt8} (hf : f ≤ k) (h : l[k]? = some c) : l.drop f = (l.drop f).take (k - f) ++ c :: l.drop (k + 1) := by
  have h1 : (l.drop f).drop (k - f) = c :: l.drop (k + 1) := by
    rw [List.drop_drop, show f + (k - f) = k by omega]
    exact drop_cons h
  rw [← h1, List.take_append_drop]
theorem mem_more {l : List UInt8} {f k : Nat} {c : UInt8} (hf : f ≤ k) (h : l[k]? = some c) (hc : ¬ c = 10) (hn : ¬ (10 : UInt8) ∈ (l.drop f).take (k - f)) : ¬ (10 : UInt8) ∈ (l.drop f).take (k + 1 - f) := by
  rw [show k + 1 - f = k - f + 1 by omega, List.take_add_one, List.getElem?_drop, show f + (k - f) = k by omega, h]
  simp
  exact ⟨by simpa using hn, fun e => hc e.symm⟩
theorem has_mid {w : World} {x : Addr} {l : List UInt8} (h : Has w (some x) (zL l)) (f k : Nat) (hfk : f ≤ k) (hk : k ≤ l.length) : Has w (some (x.add f)) (zL ((l.drop f).take (k - f))) := by
  rcases h with ⟨h, _⟩ | ⟨y, hy, h⟩
  · cases h
  · cases hy
    refine .inr ⟨_, rfl, fun j hj => ?_⟩
    simp [zL_length] at hj
    have := h (f + j) (by simp [zL_length]; omega)
    rw [add_add, this]
    congr 2
    simp only [List.getD, zL]
    simp only [List.getElem?_map, List.getElem?_take, List.getElem?_drop]
    rw [if_pos (by omega)]
theorem zL_get {l : List UInt8} {k : Nat} {c : UInt8} (h : l[k]? = some c) : (zL l).getD k 0 = (c.toNat : Int) := by
  simp [List.getD, zL, h]
theorem lines_fin {w wr w3 : World} {X : List (List UInt8)} {b : List UInt8} {NX g3 c3 : Nat} {v : Value} {o : Obj} (hN : X.length = NX) (hW : Below w.heap.size w wr) (hX : wr.ownsRow w.heap.size 9 1 v NX (strs X))
    (hown : w3.ownsRow w.heap.size 9 1 (.slice (some ⟨g3, 0, none⟩) (NX + 1) c3) (NX + 1) (strs X ++ strs [b])) (hg : (wr.alloc o).grownBy w3 v.ownBlock) :
    w3.ownsRow w.heap.size 9 1 (.slice (some ⟨g3, 0, none⟩) (NX + 1) c3) (X ++ [b]).length (strs (X ++ [b])) ∧ Below w.heap.size w w3 := by
  have hs := hW.size
  refine ⟨?_, (hW.alloc (by omega) _).grown hg (by simp; omega) (fun k hk => (hX.lt k hk).1)⟩
  have : strs (X ++ [b]) = strs X ++ strs [b] := by simp [strs]
  rw [this, List.length_append, hN]
  exact hown
set_option maxRecDepth 100000 in
set_option maxHeartbeats 8000000 in
theorem lines_ref (a : Option Addr) (n cap : Nat) (l : List UInt8) (w : World) (hn : l.length = n) (hB : Has w a (zL l)) (hl : n ≤ 65536) (hcap : n ≤ cap) :
    Calls Tryd.prog 22 #[.slice a n cap] w fun e w' => ∃ v, e = .returned v ∧ w'.ownsRow w.heap.size 9 1 v (lsF (l.length + 1) l).length (strs (lsF (l.length + 1) l)) ∧ Below w.heap.size w w' := by
  obtain ⟨i9, hi9, hy0, hy1, hy2⟩ := info_parts Tryd.info9
  obtain ⟨R, hR⟩ : ∃ R, lsF (l.length + 1) l = R := ⟨_, rfl⟩
  rw [hR]
  have HR := hide2 hR
  clear hR
  rcases a with _ | x
  · have hl0 : l = [] := by
      rcases hB with ⟨_, h⟩ | ⟨y, hy, _⟩
      · simpa [zL] using h
      · cases hy
    subst hl0
    obtain rfl : n = 0 := hn.symm
    clear hn
    have hR0 : R = [] := by rw [← HR.out, ls_nil]
    subst hR0
    go_enter Tryd.func22, Tryd.ntmps22
    go_wp2
    go_loopw [3, 4, 5] (fun t3 t4 t wr => t3 = .slice none 0 0 ∧ t4 = .int .i64 0 ∧ t = .int .i64 0 ∧ wr = w) (fun _ _ _ _ => 0)
    case atStart => exact ⟨rfl, rfl, rfl, rfl⟩
    case round =>
      obtain ⟨rfl, rfl, rfl, rfl⟩ := hrel
      go_wp2
      go_ret
      exact ⟨_, rfl, World.ownsRow_nil _ _ _ _, Below.refl _ _⟩
  · have HB := hide2 hB
    have HN := hide2 hn
    clear hB hn
    go_enter Tryd.func22, Tryd.ntmps22
    go_wp2
    go_loopw [3, 4, 5] (fun t3 t4 t5 wr => ∃ (X : List (List UInt8)) (f k m : Nat), t4 = .int .i64 f ∧ t5 = .int .i64 k ∧ f ≤ k ∧ k ≤ n ∧ X.length ≤ f ∧ n - f < m ∧ Hid (wr.ownsRow w.heap.size 9 1 t3 X.length (strs X)) ∧ Hid (¬ (10 : UInt8) ∈ (l.drop f).take (k - f)) ∧ Hid (R = X ++ lsF m (l.drop f)) ∧ Hid (Below w.heap.size w wr)) (fun _ _ t5 _ => n - (intOf t5).toNat)
    case atStart => exact ⟨[], 0, 0, n + 1, rfl, rfl, by omega, by omega, by simp, by omega, World.ownsRow_nil _ _ _ _, (by simp : ¬ _), by show R = _; rw [← HR.out, HN.out]; rfl, Below.refl _ _⟩
    case round =>
      obtain ⟨X, f, k, m, rfl, rfl, hfk, hkn, hXf, hm, HX, H10, HS, HW⟩ := hrel
      have k0 : (0 : Int) ≤ k := by omega
      have f0 : (0 : Int) ≤ f := by omega
      rcases ik : l[k]? with _ | c
      · have hkl := List.getElem?_eq_none_iff.1 ik
        have hkn2 : k = n := by have := HN.out; omega
        have kl' : ¬ (k : Int) < n := by omega
        by_cases hfn : f < n
        · have hfn' : (f : Int) < n := by omega
          have HCV : Hid ((l.drop f).take (n - f) = l.drop f) := List.take_of_length_le (by rw [List.length_drop]; have := HN.out; omega)
          have hcv := str_has wr (some (x.add f)) (n - f) (cap - f) ((l.drop f).take (n - f)) (by rw [List.length_take, List.length_drop]; have := HN.out; omega) (has_mid (HB.out.of_below HW.out) f n (by omega) (by have := HN.out; omega))
          obtain ⟨NX, hNX⟩ : ∃ N, X.length = N := ⟨_, rfl⟩
          rw [hNX] at HX hXf
          have HNX := hide2 hNX
          clear hNX
          obtain ⟨b, hb⟩ : ∃ b, (l.drop f).take (n - f) = b := ⟨_, rfl⟩
          have HBb := hide2 hb
          rw [hb] at hcv
          clear hb
          have hsz := HW.out.size
          go_wp2_with (at_builtin; refine wpList_append_form _ rfl (.tmp 31) (.tmp 36) 51 rfl w.heap.size 9 i9 _ 1 16 Tryd.underlying51 hi9 hy0 hy1 hy2 rfl (by decide) u3 NX (strs X) rfl (HX.out.alloc _) ⟨wr.heap.size, 0, none⟩ 1 1 (strs [b]) rfl rfl (World.news_of_block (heap_alloc_new wr _)) (strs_one _) (by omega) (by unfold maxLen; omega) (by omega) (by simp; omega) ?_; intro g3 c3 w3 hown3 hgrow3; have HOW3 := hide2 hown3; have HGR3 := hide2 hgrow3; clear hown3 hgrow3)
          go_ret
          have e : R = X ++ [b] := by
            obtain ⟨m', rfl⟩ : ∃ m', m = m' + 1 := ⟨m - 1, by omega⟩
            have h10 := H10.out
            rw [hkn2] at h10
            rw [HCV.out] at h10
            rw [HS.out, ls_no (by intro e; have := congrArg List.length e; rw [List.length_drop] at this; simp at this; have := HN.out; omega) h10, ← HBb.out, HCV.out]
          rw [e]
          exact ⟨_, rfl, lines_fin HNX.out HW.out HX.out HOW3.out HGR3.out⟩
        · have hfn' : ¬ (f : Int) < n := by omega
          go_wp2
          go_ret
          refine ⟨_, rfl, ?_, HW.out⟩
          have hd : l.drop f = [] := List.drop_eq_nil_of_le (by have := HN.out; omega)
          have e := HS.out
          rw [hd, ls_nil, List.append_nil] at e
          rw [e]
          exact HX.out
      · have kl : k < n := by have := ix_lt ik; have := HN.out; omega
        have kl' : (k : Int) < n := by omega
        have hce := zL_get ik
        have hcell : wr.cell? (x.add k) = some (.int .u8 (c.toNat : Int)) := by
          rw [← hce]
          rcases HB.out.of_below HW.out with ⟨h, _⟩ | ⟨y, hy, h⟩
          · cases h
          · cases hy; exact h k (by rw [zL_length, HN.out]; exact kl)
        clear hce
        by_cases hc : (c.toNat : Int) = 10
        · have hc' : c = 10 := UInt8.toNat_inj.1 (by show c.toNat = 10; omega)
          have hcv := str_has wr (some (x.add f)) (k - f) (cap - f) ((l.drop f).take (k - f)) (by rw [List.length_take, List.length_drop]; have := HN.out; omega) (has_mid (HB.out.of_below HW.out) f k (by omega) (by have := HN.out; omega))
          obtain ⟨NX, hNX⟩ : ∃ N, X.length = N := ⟨_, rfl⟩
          rw [hNX] at HX hXf
          have HNX := hide2 hNX
          clear hNX
          obtain ⟨b, hb⟩ : ∃ b, (l.drop f).take (k - f) = b := ⟨_, rfl⟩
          obtain ⟨m', rfl⟩ : ∃ m', m = m' + 1 := ⟨m - 1, by omega⟩
          have HS2 : Hid (R = (X ++ [b]) ++ lsF m' (l.drop (k + 1))) := by
            show _ = _
            rw [HS.out, ls_at (hc' ▸ drop_split hfk ik) H10.out, hb, List.append_assoc]
            rfl
          rw [hb] at hcv
          clear hb HS
          have hsz := HW.out.size
          go_wp2_with (at_builtin; refine wpList_append_form _ rfl (.tmp 17) (.tmp 23) 51 rfl w.heap.size 9 i9 _ 1 16 Tryd.underlying51 hi9 hy0 hy1 hy2 rfl (by decide) u3 NX (strs X) rfl (HX.out.alloc _) ⟨wr.heap.size, 0, none⟩ 1 1 (strs [b]) rfl rfl (World.news_of_block (heap_alloc_new wr _)) (strs_one _) (by omega) (by unfold maxLen; omega) (by omega) (by simp; omega) ?_; intro g3 c3 w3 hown3 hgrow3; have HOW3 := hide2 hown3; have HGR3 := hide2 hgrow3; clear hown3 hgrow3)
          go_roundw
          case rel =>
            obtain ⟨hr, hb2⟩ := lines_fin HNX.out HW.out HX.out HOW3.out HGR3.out
            exact ⟨X ++ [b], k + 1, k + 1, m', by go_num, by go_num, by omega, by omega, by simp [HNX.out]; omega, by omega, hr, (by rw [Nat.sub_self]; simp : ¬ _), HS2, hb2⟩
          case measure => simp [intOf]; omega
        · have hc' : ¬ c = 10 := fun e => hc (by rw [e]; rfl)
          have HM := hide2 (mem_more hfk ik hc' H10.out)
          go_wp2_with fail
          go_roundw
          case rel => exact ⟨X, f, k + 1, m, by go_num, by go_num, by omega, by omega, hXf, hm, HX, HM, HS, HW⟩
          case measure => simp [intOf]; omega
end Go.Proofs.YtjmgngocpokpgaaDoor

/-
  The document's own scan: what it says, held against what is told.
-/
namespace Go.Proofs.YtjmgngocpokpgaaDoor
open Go.RowKit
set_option linter.unusedVariables false
set_option linter.unusedSimpArgs false
/-- The tokens ahead of the first fault. -/
def preT (xs : List Tl) : List Tk := (xs.takeWhile (fun x => decide (x.e = 0))).map (·.tk)
theorem preT_ok (T : List Tk) (xs : List Tl) : preT (T.map okT ++ xs) = T ++ preT xs := by
  induction T with
  | nil => rfl
  | cons t T ih =>
    unfold preT at ih ⊢
    rw [List.map_cons, List.cons_append, List.takeWhile_cons_of_pos (by simp [okT]), List.map_cons, ih]
    rfl
theorem flt_ok (T : List Tk) (xs : List Tl) : fltOf (T.map okT ++ xs) = fltOf xs := by
  unfold fltOf
  rw [List.find?_append, List.find?_eq_none.2 (fun x hx => by obtain ⟨t, _, rfl⟩ := List.mem_map.1 hx; simp [okT])]
  rfl
theorem preT_bad (x : Tl) (h : x.e ≠ 0) : preT [x] = [] ∧ fltOf [x] = (x.d, x.ln, x.e) := by
  constructor
  · unfold preT
    rw [List.takeWhile_cons_of_neg (by simpa using h)]
    rfl
  · unfold fltOf
    rw [List.find?_cons_of_pos (by simpa using h)]
theorem tok_pre (A : List Tl) (h : (fltOf A).2.2 = 0) : toksOf A = preT A := by
  unfold fltOf at h
  unfold toksOf preT
  rcases hf : A.find? (fun x => decide (x.e ≠ 0)) with _ | x
  · have ha : ∀ x ∈ A, decide (x.e = 0) = true := fun x hx => by
      have := List.find?_eq_none.1 hf x hx
      simpa using this
    have hw : ∀ B : List Tl, (∀ x ∈ B, decide (x.e = 0) = true) → B.takeWhile (fun x => decide (x.e = 0)) = B := by
      intro B hB
      induction B with
      | nil => rfl
      | cons b B ih =>
        rw [List.takeWhile_cons, if_pos (hB b (by simp)), ih (fun x hx => hB x (by simp [hx]))]
    rw [hf, hw A ha]
  · rw [hf] at h
    have := List.find?_some hf
    exact absurd h (by simpa using this)
theorem tok_bad (A : List Tl) (h : (fltOf A).2.2 ≠ 0) : toksOf A = [] := by
  unfold fltOf at h
  unfold toksOf
  rcases hf : A.find? (fun x => decide (x.e ≠ 0)) with _ | x
  · rw [hf] at h
    exact absurd rfl h
  · rw [hf]
theorem scaF_kind (num : Int) (l : List UInt8) (p : Nat) (ts : List Tk) (h : ∀ t ∈ ts, t.kind ≠ 1) : ∀ t ∈ (scaF num l p ts).1, t.kind ≠ 1 := by
  have key : ∀ u : Tk, u.kind ≠ 1 → ∀ t ∈ ts ++ [u], t.kind ≠ 1 := fun u hu t ht => by
    rcases List.mem_append.1 ht with h1 | h1
    · exact h t h1
    · rw [List.mem_singleton.1 h1]; exact hu
  unfold scaF qtdF
  split
  · simp
  · split
    · split
      · simp
      · split
        · simp
        · split
          · exact key _ (by dsimp only; decide)
          · simp
    · split
      · simp
      · exact key _ (by dsimp only; decide)
theorem conF_kind (num : Int) (l : List UInt8) : ∀ (n p : Nat) (ts : List Tk), (∀ t ∈ ts, t.kind ≠ 1) → ∀ t ∈ (conF num l n p ts).1, t.kind ≠ 1
  | 0, p, ts, h => by simp [conF]
  | n + 1, p, ts, h => by
    have key : ∀ u : Tk, u.kind ≠ 1 → ∀ t ∈ ts ++ [u], t.kind ≠ 1 := fun u hu t ht => by
      rcases List.mem_append.1 ht with h1 | h1
      · exact h t h1
      · rw [List.mem_singleton.1 h1]; exact hu
    unfold conF
    split
    · exact h
    · split
      · exact h
      · split
        · exact conF_kind num l n _ _ (key _ (by dsimp only; decide))
        · split
          · exact scaF_kind num l p ts h
          · split
            · exact key _ (by dsimp only; decide)
            · exact scaF_kind num l _ _ (key _ (by dsimp only; decide))
/-- A line begins a document just when its one token says so. -/
theorem doc_read (l : List UInt8) (n : Int) : (∃ t, (readF l n).1 = [t] ∧ t.kind = 1 ∧ docN (readF l n).1 = 1) ∨ ((∀ t ∈ (readF l n).1, t.kind ≠ 1) ∧ docN (readF l n).1 = 0) := by
  have key : ∀ ts : List Tk, (∀ t ∈ ts, t.kind ≠ 1) → docN ts = 0 := fun ts h => by
    unfold docN
    rw [List.length_eq_zero_iff, List.filter_eq_nil_iff]
    intro t ht
    simpa using h t ht
  unfold readF
  split
  · right; simp [docN]
  · split
    · left
      exact ⟨_, rfl, rfl, by simp [docN]⟩
    · right
      have h := conF_kind n l (l.length + 1) (skpF l 0) [] (by simp)
      exact ⟨h, key _ h⟩
/-- A line, and what follows. -/
theorem lin_step {m : Nat} {r : List UInt8} {num docs : Nat} {x : List UInt8} {Y : List (List UInt8)} (hm : r.length < m + 1) (h : lsF (m + 1) r = x :: Y) : ∃ b, lsF m b = Y ∧ b.length < m ∧ b.length + x.length ≤ r.length ∧ linF (m + 1) r num docs = if (readF x num).2 ≠ 0 then [⟨zTk, docs, num, (readF x num).2⟩] else (readF x num).1.map okT ++ linF m b (num + 1) (docs + docN (readF x num).1) := by
  rw [lsF] at h
  split at h
  · cases h
  · rename_i hr
    injection h with h1 h2
    have hc := cut10 r hr
    refine ⟨(Lib.cut r [10]).2.1, h2, ?_, ?_, ?_⟩
    · omega
    · rw [← h1]; omega
    · rw [linF, if_neg hr, h1]
theorem lin_end {m : Nat} {r : List UInt8} {num docs : Nat} (h : lsF (m + 1) r = []) : linF (m + 1) r num docs = [] := by
  rw [lsF] at h
  split at h
  · rename_i hr
    rw [hr, linF_nil]
  · cases h
end Go.Proofs.YtjmgngocpokpgaaDoor

/-
  What is told, piece by piece: how many tokens so far, and whether a fault.
-/
namespace Go.Proofs.YtjmgngocpokpgaaDoor
open Go.RowKit
set_option linter.unusedVariables false
set_option linter.unusedSimpArgs false
def cnt (xs : List Tl) : Nat := (preT xs).length
def endd (xs : List Tl) : Bool := xs.any (fun x => decide (x.e ≠ 0))
/-- Tokens, and at most one fault behind them. -/
def Shp (A : List Tl) (T : List Tk) : Prop := A = T.map okT ∨ ∃ b : Tl, A = T.map okT ++ [b] ∧ b.e ≠ 0 ∧ b.tk = zTk
theorem linF_shape : ∀ (n : Nat) (r : List UInt8) (num docs : Nat), ∃ T, Shp (linF n r num docs) T
  | 0, r, num, docs => ⟨[], .inl rfl⟩
  | n + 1, r, num, docs => by
    rw [linF]
    split
    · exact ⟨[], .inl rfl⟩
    · split
      · rename_i h
        exact ⟨[], .inr ⟨_, rfl, h, rfl⟩⟩
      · obtain ⟨T, h⟩ := linF_shape n (Lib.cut r [10]).2.1 (num + 1) (docs + docN (readF (Lib.cut r [10]).1 num).1)
        refine ⟨(readF (Lib.cut r [10]).1 num).1 ++ T, ?_⟩
        rcases h with h | ⟨b, h, hb, hz⟩
        · left; rw [h, List.map_append]
        · right; exact ⟨b, by rw [h, List.map_append, List.append_assoc], hb, hz⟩
theorem scnF_shape (l : List UInt8) : ∃ T, Shp (scnF l) T := by
  unfold scnF
  split
  · exact ⟨[], .inr ⟨longT, rfl, by decide, rfl⟩⟩
  · exact linF_shape _ _ _ _
theorem preT_map (T : List Tk) : preT (T.map okT) = T := by
  have := preT_ok T []
  rw [List.append_nil] at this
  rw [this]
  simp [preT]
theorem shp_pre {A : List Tl} {T : List Tk} (h : Shp A T) : preT A = T := by
  rcases h with h | ⟨b, h, hb, _⟩
  · rw [h, preT_map]
  · rw [h, preT_ok, (preT_bad b hb).1, List.append_nil]
theorem endd_map (T : List Tk) : endd (T.map okT) = false := by
  unfold endd
  rw [List.any_eq_false]
  intro x hx
  obtain ⟨t, _, rfl⟩ := List.mem_map.1 hx
  simp [okT]
theorem shp_endd {A : List Tl} {T : List Tk} (h : Shp A T) : endd A = decide ((fltOf A).2.2 ≠ 0) := by
  rcases h with h | ⟨b, h, hb, _⟩
  · have e := flt_ok T []
    rw [List.append_nil] at e
    rw [h, endd_map, e]
    simp [fltOf]
  · rw [h, flt_ok, (preT_bad b hb).2]
    unfold endd
    rw [List.any_append]
    simp [hb]
theorem shp_step {A : List Tl} {T : List Tk} (h : Shp A T) {pre : List Tl} {x : Tl} (hp : pre ++ [x] <+: A) : (x.e = 0 ∧ ∃ t, x = okT t ∧ pre = (T.take pre.length).map okT ∧ T[pre.length]? = some t) ∨ (x.e ≠ 0 ∧ pre = T.map okT ∧ fltOf A = (x.d, x.ln, x.e) ∧ x.tk = zTk) := by
  have key : ∀ (B : List Tk), pre ++ [x] <+: B.map okT → ∃ t, x = okT t ∧ pre = (B.take pre.length).map okT ∧ B[pre.length]? = some t := by
    intro B hB
    obtain ⟨r, hr⟩ := hB
    have hl := congrArg List.length hr
    simp at hl
    have h1 := congrArg (fun l => l[pre.length]?) hr
    simp at h1
    rw [eq_comm, Option.map_eq_some_iff] at h1
    obtain ⟨t, ht, hx⟩ := h1
    refine ⟨t, hx.symm, ?_, ht⟩
    have h2 := congrArg (fun l => l.take pre.length) hr
    simpa [List.take_append] using h2
  rcases h with h | ⟨b, h, hb, hz⟩
  · obtain ⟨t, h1, h2, h3⟩ := key T (h ▸ hp)
    exact .inl ⟨by rw [h1]; rfl, t, h1, h2, h3⟩
  · rw [h] at hp
    rcases List.prefix_concat_iff.1 hp with hp | hp
    · have hpx := hp
      have e1 : pre = T.map okT := List.append_inj_left' hp rfl
      have e2 : [x] = [b] := List.append_inj_right' hp rfl
      cases e2
      refine .inr ⟨hb, e1, ?_, hz⟩
      rw [h, flt_ok, (preT_bad x hb).2]
    · obtain ⟨t, h1, h2, h3⟩ := key T hp
      exact .inl ⟨by rw [h1]; rfl, t, h1, h2, h3⟩
theorem step_ok {A : List Tl} {T : List Tk} (h : Shp A T) {pre : List Tl} {x : Tl} (hp : pre ++ [x] <+: A) (hx : x.e = 0) : endd pre = false ∧ T[cnt pre]? = some x.tk ∧ cnt (pre ++ [x]) = cnt pre + 1 ∧ endd (pre ++ [x]) = false := by
  rcases shp_step h hp with ⟨_, t, h1, h2, h3⟩ | ⟨h0, _⟩
  · have e1 : cnt pre = pre.length := by
      unfold cnt
      rw [h2, preT_map]
      have := (List.getElem?_eq_some_iff.1 h3).1
      simp
    have e2 : pre ++ [x] = (T.take pre.length ++ [t]).map okT := by rw [List.map_append, ← h2, h1]; rfl
    have e3 : endd pre = false := by rw [h2]; exact endd_map _
    refine ⟨e3, by rw [e1, h3, h1]; rfl, ?_, by rw [e2]; exact endd_map _⟩
    rw [e1]
    unfold cnt
    rw [e2, preT_map]
    have := (List.getElem?_eq_some_iff.1 h3).1
    simp
    omega
  · exact absurd hx h0
theorem step_bad {A : List Tl} {T : List Tk} (h : Shp A T) {pre : List Tl} {x : Tl} (hp : pre ++ [x] <+: A) (hx : x.e ≠ 0) : endd pre = false ∧ cnt pre = T.length ∧ fltOf A = (x.d, x.ln, x.e) ∧ x.tk = zTk ∧ cnt (pre ++ [x]) = T.length ∧ endd (pre ++ [x]) = true := by
  rcases shp_step h hp with ⟨h0, _⟩ | ⟨_, h1, h2, h3⟩
  · exact absurd h0 hx
  · refine ⟨by rw [h1]; exact endd_map _, by unfold cnt; rw [h1, preT_map], h2, h3, ?_, ?_⟩
    · unfold cnt
      rw [h1, preT_ok, (preT_bad x hx).1, List.append_nil]
    · unfold endd
      rw [List.any_append]
      simp [hx]
theorem cnt_le {A : List Tl} {T : List Tk} (h : Shp A T) {pre : List Tl} (hp : pre <+: A) : cnt pre ≤ T.length := by
  rw [← shp_pre h]
  unfold cnt preT
  rw [List.length_map, List.length_map]
  obtain ⟨r, rfl⟩ := hp
  rw [List.takeWhile_append]
  split
  · rename_i h1
    rw [h1]
    simp
  · exact Nat.le_refl _
end Go.Proofs.YtjmgngocpokpgaaDoor
