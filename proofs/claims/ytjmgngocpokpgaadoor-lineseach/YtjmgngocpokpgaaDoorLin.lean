/-
  The document's own reader: a line's tokens.
-/
import Derived.Test.YtjmgngocpokpgaaDoorSc2
import Derived.Test.YtjmgngocpokpgaaDoorPl17
import Derived.Deep.DeepCutAuto
namespace Go.Proofs.YtjmgngocpokpgaaDoor
open Go.RowKit
set_option linter.unusedVariables false
set_option linter.unusedSimpArgs false
theorem any_take {l : List UInt8} {k : Nat} {c : UInt8} (f : UInt8 → Bool) (h : l[k]? = some c) (ha : (l.take k).any f = false) (hc : f c = false) : (l.take (k + 1)).any f = false := by
  rw [List.take_add_one, h, List.any_append, ha]
  simp [hc]
theorem any_full {l : List UInt8} {k : Nat} (f : UInt8 → Bool) (h : l[k]? = none) (ha : (l.take k).any f = false) : l.any f = false := by
  rw [List.take_of_length_le (List.getElem?_eq_none_iff.1 h)] at ha
  exact ha
theorem any_hit {l : List UInt8} {k : Nat} {c : UInt8} (f : UInt8 → Bool) (h : l[k]? = some c) (hc : f c = true) : l.any f = true := by
  rw [List.any_eq_true]
  exact ⟨c, List.mem_of_getElem? h, hc⟩
theorem read_80 {l : List UInt8} (n : Int) (h : l.any (fun c => c == 9) = true) : readF l n = ([], 80) := by
  have : strF l = 80 := by unfold strF; rw [if_pos h]
  unfold readF
  rw [this, if_pos (by decide)]
theorem read_83 {l : List UInt8} (n : Int) (h : l.any (fun c => c == 9) = false) (h2 : l.any (fun c => unsF c.toNat) = true) : readF l n = ([], 83) := by
  have : strF l = 83 := by unfold strF; rw [if_neg (by rw [h]; decide), if_pos h2]
  unfold readF
  rw [this, if_pos (by decide)]
theorem read_go {l : List UInt8} (n : Int) (h : l.any (fun c => c == 9) = false) (h2 : l.any (fun c => unsF c.toNat) = false) : readF l n = if docF l = true then ([⟨1, n, 0, [], false⟩], 0) else conF n l (l.length + 1) (skpF l 0) [] := by
  have h0 : strF l = 0 := by unfold strF; rw [if_neg (by rw [h]; decide), if_neg (by rw [h2]; decide)]
  unfold readF
  rw [h0, if_neg (by decide)]
  by_cases hd : docF l = true
  · rw [if_pos hd, if_pos hd, (doc_first hd).1]
    rfl
  · rw [if_neg hd, if_neg hd]
theorem pre3 {l : List UInt8} (h : 3 ≤ l.length) : Lib.hasPrefix l [45, 45, 45] = decide (l.take 3 = [45, 45, 45]) := by
  unfold Lib.hasPrefix
  rw [Bool.eq_iff_iff, List.isPrefixOf_iff_prefix, decide_eq_true_iff, List.prefix_iff_eq_take]
  exact eq_comm
theorem doc_short {l : List UInt8} (h : ¬ 3 ≤ l.length) : docF l = false := by
  cases hd : docF l with
  | false => rfl
  | true => exact absurd (doc_first hd).2 h
theorem doc_not {l : List UInt8} (h : 3 ≤ l.length) (h2 : ¬ l.take 3 = [45, 45, 45]) : docF l = false := by
  unfold docF
  rw [pre3 h, decide_eq_false h2]
  rfl
theorem doc_yes {l : List UInt8} (h : 3 ≤ l.length) (h2 : l.take 3 = [45, 45, 45]) : docF l = nulF (l.drop 3) := by
  unfold docF
  rw [pre3 h, decide_eq_true h2]
  rfl
theorem conF_item (n : Int) (l : List UInt8) (m p : Nat) (T : List Tk) (c : UInt8) (r : List UInt8) (hd : l.drop p = c :: r) (h : ovrF (l.drop p) = false) (hi : itmF (l.drop p) = true) (hc : (c.toNat : Int) = 45) : conF n l (m + 1) p T = conF n l m (skpF l (p + 1)) (T ++ [⟨2, n, p, [], false⟩]) := by
  rw [conF, hd]
  rw [hd] at h hi
  dsimp only
  rw [if_neg (by rw [h]; decide), if_pos hi]
  have : quoF (c.toNat : Int) = false := by unfold quoF; rw [decide_eq_false_iff_not]; omega
  rw [this]
theorem conF_key (n : Int) (l : List UInt8) (m p : Nat) (T : List Tk) (c : UInt8) (r : List UInt8) (hd : l.drop p = c :: r) (h : ovrF (l.drop p) = false) (hi : itmF (l.drop p) = false) : conF n l (m + 1) p T = match keyF (l.drop p) with
        | none => scaF n l p T
        | some (t, k) => if ovrF (l.drop (skpF l (p + k))) = true then (T ++ [⟨3, n, p, t, quoF c.toNat⟩], 0) else scaF n l (skpF l (p + k)) (T ++ [⟨3, n, p, t, quoF c.toNat⟩]) := by
  rw [conF, hd]
  rw [hd] at h hi
  dsimp only
  rw [if_neg (by rw [h]; decide), if_neg (by rw [hi]; decide)]
  rcases keyF (c :: r) with _ | ⟨t, k⟩ <;> rfl
theorem skpF_at (l : List UInt8) (c : UInt8) : ∀ (d p : Nat), l.length - p ≤ d → l[skpF l p]? = some c → ¬ c = 32
  | d, p, hd, h => by
    rcases ip : l[p]? with _ | x
    · have h1 := List.getElem?_eq_none_iff.1 ip
      have h2 : skpF l p = l.length := by unfold skpF; rw [List.drop_eq_nil_of_le h1]; simp [Lib.trimLeftB]
      rw [h2] at h
      simp at h
    · have hl := ix_lt ip
      by_cases hx : x = 32
      · subst hx
        rw [← skpF_blank ip] at h
        rcases d with _ | d
        · omega
        · exact skpF_at l c d (p + 1) (by omega) h
      · rw [skpF_stop ip hx, ip] at h
        obtain rfl := Option.some.inj h
        exact hx
/-- A scalar, whatever is left. -/
theorem scalar_any (v : Value) (T : List Tk) (B : Nat) (l : List UInt8) (i : Nat) (n : Int) (w : World) (hs : l.length ≤ 2 ^ 40) (hi : i ≤ l.length) (hst : ∀ c, l[i]? = some c → ¬ c = 32) (hT : T.length ≤ 2 ^ 36) (hB : B ≤ w.heap.size) (hrow : w.ownsRow B 40 5 v T.length (T.flatMap Tk.row)) :
    Calls Tryd.prog 36 #[v, .string ⟨l.toArray⟩, .int .i64 i, .int .i64 n] w (ToksE w B (if ovrF (l.drop i) = true then (T, 0) else scaF n l i T)) := by
  by_cases ho : ovrF (l.drop i) = true
  · rw [if_pos ho]
    exact scalar_none v T B l i n w hs hi hrow ho
  · rw [if_neg ho]
    rcases ij : l[i]? with _ | c
    · exact absurd (by rw [List.drop_eq_nil_of_le (List.getElem?_eq_none_iff.1 ij)]; rfl) ho
    · have hd := drop_cons ij
      cases hq : quoF (c.toNat : Int) with
      | true => exact scalar_q v T B l i n c _ w hs hd hq hT hB hrow
      | false =>
        refine scalar_p v T B l i n c _ w hs hd hq (hst c ij) ?_ hT hB hrow
        intro h35
        rw [hd] at ho
        exact ho (by simp [ovrF, h35])
theorem one_tok {w : World} {n : Int} {R : List Tk × Int} (h : R = ([⟨1, n, 0, [], false⟩], 0)) : ToksE w w.heap.size R (.returned (.tuple #[.slice (some ⟨w.heap.size, 0, none⟩) 1 1, .int .i64 0])) (w.alloc (.cells #[.int .i64 1, .int .i64 n, .int .i64 0, .string ⟨#[]⟩, .bool false] 40 (0, 0))) := by
  subst h
  refine ⟨_, rfl, ?_, (Below.refl _ w).alloc (Nat.le_refl _) _⟩
  exact ⟨rfl, .inr ⟨_, 1, _, rfl, Nat.le_refl _, Go.heap_alloc_new w _, Nat.le_refl _, by decide, rfl, rfl⟩⟩
/-- What the items' loop keeps. -/
structure Itm (w : World) (l : List UInt8) (n : Int) (R : List Tk × Int) (wr : World) (v : Value) (p : Nat) (T : List Tk) (m : Nat) : Prop where
  row : wr.ownsRow w.heap.size 40 5 v T.length (T.flatMap Tk.row)
  bel : Below w.heap.size w wr
  goes : conF n l m p T = R
  fuel : l.length - p < m
  few : T.length ≤ p
  low : p ≤ l.length
  stop : ∀ c, l[p]? = some c → ¬ c = 32
theorem itm_next {w wr w3 : World} {l : List UInt8} {n : Int} {R : List Tk × Int} {v : Value} {p q m NT g3 c3 : Nat} {T : List Tk} {t : Tk} {o : Obj} (h : Itm w l n R wr v p T (m + 1)) (hN : T.length = NT)
    (hown : w3.ownsRow w.heap.size 40 5 (.slice (some ⟨g3, 0, none⟩) (NT + 1) c3) (NT + 1) (T.flatMap Tk.row ++ [t].flatMap Tk.row)) (hg : (wr.alloc o).grownBy w3 v.ownBlock)
    (hG : R = conF n l m q (T ++ [t])) (hq1 : p + 1 ≤ q) (hq2 : q ≤ l.length) (hst : ∀ c, l[q]? = some c → ¬ c = 32) : Itm w l n R w3 (.slice (some ⟨g3, 0, none⟩) (NT + 1) c3) q (T ++ [t]) m := by
  have hs := h.bel.size
  have hf := h.fuel
  have hw := h.few
  refine ⟨?_, (h.bel.alloc (by omega) _).grown hg (by simp; omega) (fun k hk => (h.row.lt k hk).1), hG.symm, by omega, by simp; omega, hq2, hst⟩
  rw [← List.flatMap_append] at hown
  rw [List.length_append, hN]
  exact hown
theorem key_bad {n : Int} {l : List UInt8} {p : Nat} {T : List Tk} {c : UInt8} {r : List UInt8} (hd : l.drop p = c :: r) (hq : quoF c.toNat = true) (hu : unqF (l.drop p) = none) : keyF (l.drop p) = none ∧ scaF n l p T = ([], 82) := by
  rw [hd] at hu
  constructor
  · rw [hd, keyF, if_pos hq, hu]
  · unfold scaF qtdF
    rw [hd]
    dsimp only
    rw [if_pos hq, hu]
theorem scalar_at (R : List Tk × Int) (v : Value) (T : List Tk) (B : Nat) (l : List UInt8) (i : Nat) (n : Int) (w : World) (hR : R = if ovrF (l.drop i) = true then (T, 0) else scaF n l i T) (hs : l.length ≤ 2 ^ 40) (hi : i ≤ l.length) (hst : ∀ c, l[i]? = some c → ¬ c = 32) (hT : T.length ≤ 2 ^ 36) (hB : B ≤ w.heap.size) (hrow : w.ownsRow B 40 5 v T.length (T.flatMap Tk.row)) :
    Calls Tryd.prog 36 #[v, .string ⟨l.toArray⟩, .int .i64 i, .int .i64 n] w (ToksE w B R) := by
  rw [hR]
  exact scalar_any v T B l i n w hs hi hst hT hB hrow
theorem toks_out {w w3 : World} {B : Nat} {R : List Tk × Int} {v : Value} {z : Int} (h : ToksE w B R (.returned (.tuple #[v, .int .i64 z])) w3) : w3.ownsRow B 40 5 v R.1.length (R.1.flatMap Tk.row) ∧ Below B w w3 := by
  obtain ⟨u, he, hr, hb⟩ := h
  injection he with he
  injection he with he
  have h0 := congrArg (fun a => a[0]?) he
  simp at h0
  subst h0
  exact ⟨hr, hb⟩
theorem toks_on {w wr w2 : World} {R : List Tk × Int} {e : Ending} (hb : Below w.heap.size w wr) (h : ToksE wr w.heap.size R e w2) : ToksE w w.heap.size R e w2 := by
  obtain ⟨v, he, hr, hb2⟩ := h
  exact ⟨v, he, hr, hb.trans hb2⟩
set_option maxRecDepth 100000 in
set_option maxHeartbeats 8000000 in
theorem line_ref (l : List UInt8) (n : Int) (w : World) (hs : l.length ≤ 2 ^ 30) :
    Calls Tryd.prog 23 #[.string ⟨l.toArray⟩, .int .i64 n] w (ToksE w w.heap.size (readF l n)) := by
  obtain ⟨i40, hi40, hy0, hy1, hy2⟩ := info_parts Tryd.info40
  obtain ⟨R, hR⟩ : ∃ R, readF l n = R := ⟨_, rfl⟩
  rw [hR]
  have HR0 := hide2 hR
  clear hR
  go_enter Tryd.func23, Tryd.ntmps23
  go_wp2
  go_loopw [6] (fun t wr => ∃ k : Nat, t = .int .i64 k ∧ k ≤ l.length ∧ (l.take k).any (fun c => c == 9) = false ∧ wr = w) (fun t _ => l.length - (intOf t).toNat)
  case atStart => exact ⟨0, rfl, by omega, by simp, rfl⟩
  case round =>
    obtain ⟨k, rfl, hkl, hany, rfl⟩ := hrel
    have HA := hide2 hany
    clear hany
    have k0 : (0 : Int) ≤ k := by omega
    rcases ik : l[k]? with _ | c
    · have HN := hide2 (any_full _ ik HA.out)
      have kl := len_none ik
      have kl' : ¬ (k : Int) < l.length := by omega
      clear HA
      go_wp2
      go_loopw [7] (fun t wq => ∃ k : Nat, t = .int .i64 k ∧ k ≤ l.length ∧ (l.take k).any (fun c => unsF c.toNat) = false ∧ wq = wr) (fun t _ => l.length - (intOf t).toNat)
      case atStart => exact ⟨0, rfl, by omega, by simp, rfl⟩
      case round =>
        obtain ⟨k, rfl, hkl, hany, rfl⟩ := hrel
        have HA := hide2 hany
        clear hany
        have k0 : (0 : Int) ≤ k := by omega
        rcases ik : l[k]? with _ | c
        · have HG := hide2 (HR0.out.symm.trans (read_go n HN.out (any_full _ ik HA.out)))
          clear HR0
          have kl := len_none ik
          have kl' : ¬ (k : Int) < l.length := by omega
          clear HA HN
          go_upto_region 11 with fail
          go_cut [48] (fun b wx => b = .bool (decide (3 ≤ l.length ∧ l.take 3 = [45, 45, 45])) ∧ wx = wr)
          case first =>
            by_cases h3 : 3 ≤ l.length
            · have h3' : (3 : Int) ≤ l.length := by omega
              have hxt := extract_mid l 0 3
              rw [List.drop_zero] at hxt
              by_cases h4 : l.take 3 = [45, 45, 45]
              · have hxe : (ByteArray.mk l.toArray).extract 0 3 = ⟨#[45, 45, 45]⟩ := by rw [hxt]; show ByteArray.mk (l.take 3).toArray = _; rw [h4]
                have HP : Hid (decide (3 ≤ l.length ∧ l.take 3 = [45, 45, 45]) = true) := decide_eq_true ⟨h3, h4⟩
                clear hxt h4
                go_wp2_with fail
                go_meet
                exact ⟨congrArg Value.bool HP.out.symm, rfl⟩
              · have hxe : ¬ (ByteArray.mk l.toArray).extract 0 3 = ⟨#[45, 45, 45]⟩ := by
                  rw [hxt]
                  intro e
                  apply h4
                  have := congrArg (fun b => b.data.toList) e
                  simpa using this
                have HP : Hid (decide (3 ≤ l.length ∧ l.take 3 = [45, 45, 45]) = false) := decide_eq_false (fun h => h4 h.2)
                have hxb : (((ByteArray.mk l.toArray).extract 0 3).toList == [45, 45, 45]) = false := by
                  rw [hxt, toList_mk, beq_eq_false_iff_ne]
                  exact h4
                clear hxt h4
                go_wp2_with fail
                go_meet
                exact ⟨congrArg Value.bool HP.out.symm, rfl⟩
            · have h3' : ¬ (3 : Int) ≤ l.length := by omega
              have HP : Hid (decide (3 ≤ l.length ∧ l.take 3 = [45, 45, 45]) = false) := decide_eq_false (fun h => h3 h.1)
              go_wp2_with fail
              go_meet
              exact ⟨congrArg Value.bool HP.out.symm, rfl⟩
          case rest =>
          obtain ⟨rfl, rfl⟩ := hcut
          go_upto_if 48 with fail
          go_cut [] (fun wx => Hid (docF l = false) ∧ wx = wc)
          case first =>
            by_cases h34 : 3 ≤ l.length ∧ l.take 3 = [45, 45, 45]
            · have hdt : decide (3 ≤ l.length ∧ l.take 3 = [45, 45, 45]) = true := decide_eq_true h34
              rw [hdt]
              obtain ⟨h3, h4⟩ := h34
              have HD := hide2 (doc_yes h3 h4)
              have sr := skip_ref l 3 wc (by omega) h3
              obtain ⟨j, hj⟩ : ∃ j, skpF l 3 = j := ⟨_, rfl⟩
              rw [hj] at sr
              have hj3 : 3 ≤ j := by rw [← hj]; exact skpF_ge l 3 h3
              have hjl : j ≤ l.length := by rw [← hj]; exact skpF_le l 3
              have j0 : (0 : Int) ≤ j := by omega
              have HJ := hide2 hj
              clear h4 hj hdt
              rcases ij : l[j]? with _ | x
              · have hn : nulF (l.drop 3) = true := nul_end h3 (by rw [HJ.out]; exact ij)
                have HR := HG.out
                rw [HD.out, hn, if_pos rfl] at HR
                replace HR := hide2 HR
                have jl := len_none ij
                have jl' : (j : Int) = l.length := by omega
                clear hn
                go_wp2_with (go_at_call 33; refine sr.mono ?_; rintro e w' ⟨rfl, hw'⟩; obtain rfl : wc = w' := hw'.symm)
                refine bodyPost_ret (v := .tuple #[.slice (some ⟨wc.heap.size, 0, none⟩) 1 1, .int .i64 0]) (by simp [results, Tryd.results23, go_sem]) rfl ?_
                exact one_tok HR.out
              · have ex := ix_eq ij
                have jl := ix_lt ij
                have jl' : (j : Int) < l.length := by omega
                have jne : ¬ (j : Int) = l.length := by omega
                have hn := nul_at h3 (by rw [HJ.out]; exact ij)
                rw [HJ.out] at hn
                by_cases hx : (x.toNat : Int) = 35 ∧ 3 < j
                · rw [decide_eq_true hx] at hn
                  have HR := HG.out
                  rw [HD.out, hn, if_pos rfl] at HR
                  replace HR := hide2 HR
                  obtain ⟨hx1, hx2⟩ := hx
                  have hx3 : (3 : Int) < j := by omega
                  clear hn
                  go_wp2_with (go_at_call 33; refine sr.mono ?_; rintro e w' ⟨rfl, hw'⟩; obtain rfl : wc = w' := hw'.symm)
                  refine bodyPost_ret (v := .tuple #[.slice (some ⟨wc.heap.size, 0, none⟩) 1 1, .int .i64 0]) (by simp [results, Tryd.results23, go_sem]) rfl ?_
                  exact one_tok HR.out
                · rw [decide_eq_false hx] at hn
                  have HDF : Hid (docF l = false) := HD.out.trans hn
                  clear hn
                  by_cases hx3 : 3 < j
                  · have hx3' : (3 : Int) < j := by omega
                    have hx1 : ¬ (x.toNat : Int) = 35 := fun e => hx ⟨e, hx3⟩
                    have hx1b : ((x.toNat : Int) == 35) = false := by rw [beq_eq_false_iff_ne]; exact hx1
                    clear hx
                    go_wp2_with (go_at_call 33; refine sr.mono ?_; rintro e w' ⟨rfl, hw'⟩; obtain rfl : wc = w' := hw'.symm)
                    go_meet
                    exact ⟨HDF, rfl⟩
                  · have hx3' : ¬ (3 : Int) < j := by omega
                    clear hx
                    go_wp2_with (go_at_call 33; refine sr.mono ?_; rintro e w' ⟨rfl, hw'⟩; obtain rfl : wc = w' := hw'.symm)
                    go_meet
                    exact ⟨HDF, rfl⟩
            · have hdt : decide (3 ≤ l.length ∧ l.take 3 = [45, 45, 45]) = false := decide_eq_false h34
              rw [hdt]
              have HDF : Hid (docF l = false) := by
                show _ = _
                by_cases h3 : 3 ≤ l.length
                · exact doc_not h3 (fun h4 => h34 ⟨h3, h4⟩)
                · exact doc_short h3
              clear hdt h34
              go_wp2_with fail
              go_meet
              exact ⟨HDF, rfl⟩
          case rest =>
            obtain ⟨HDF, hwc⟩ := hcut
            have hwc := hwc.symm
            subst hwc
            have HR := HG.out
            rw [HDF.out, if_neg (by decide)] at HR
            replace HR := hide2 HR
            clear HG HDF
            have sr0 := skip_ref l 0 wc (by omega) (by omega)
            obtain ⟨P0, hP0⟩ : ∃ p, skpF l 0 = p := ⟨_, rfl⟩
            rw [hP0] at sr0 HR
            have hPl : P0 ≤ l.length := by rw [← hP0]; exact skpF_le l 0
            have HST : Hid (∀ c, l[P0]? = some c → ¬ c = 32) := fun c hc => skpF_at l c _ 0 (Nat.le_refl _) (by rw [hP0]; exact hc)
            clear hP0
            go_wp2_with (go_at_call 33; refine sr0.mono ?_; rintro e w' ⟨rfl, hw'⟩; obtain rfl : wc = w' := hw'.symm)
            clear sr0
            go_loopw [9, 10] (fun t9 t10 wq => ∃ (T : List Tk) (p m : Nat), t10 = .int .i64 p ∧ Hid (Itm wc l n R wq t9 p T m)) (fun _ t10 _ => l.length - (intOf t10).toNat)
            case atStart => exact ⟨[], P0, l.length + 1, rfl, ⟨World.ownsRow_nil _ _ _ _, Below.refl _ _, HR.out.symm, by omega, by simp, hPl, HST.out⟩⟩
            case round =>
              obtain ⟨T, p, m, rfl, HI⟩ := hrel
              have hpl := HI.out.low
              have hfew := HI.out.few
              have hfu := HI.out.fuel
              have hsz := HI.out.bel.size
              have p0 : (0 : Int) ≤ p := by omega
              obtain ⟨m', rfl⟩ : ∃ m', m = m' + 1 := ⟨m - 1, by omega⟩
              have nr := nothing_ref l p wr (by omega) hpl
              obtain ⟨NT, hNT⟩ : ∃ N, T.length = N := ⟨_, rfl⟩
              have HNT := hide2 hNT
              rw [hNT] at hfew
              clear hNT
              clear HR HST hPl
              rcases hov : ovrF (l.drop p) with _ | _
              · rw [hov] at nr
                have HOV := hide2 hov
                rcases ip : l[p]? with _ | c
                · exact absurd hov (by rw [List.drop_eq_nil_of_le (List.getElem?_eq_none_iff.1 ip)]; decide)
                have HDR := hide2 (drop_cons ip)
                clear hov
                have ec := ix_eq ip
                have pl := ix_lt ip
                have pl' : (p : Int) < l.length := by omega
                by_cases hc45 : (c.toNat : Int) = 45
                · have hc45b : ((c.toNat : Int) == 45) = true := by rw [beq_iff_eq]; exact hc45
                  rcases ip1 : l[p + 1]? with _ | e
                  · have HIT := hide2 (itm_last ip hc45 ip1)
                    have pe := List.getElem?_eq_none_iff.1 ip1
                    have pe' : (p : Int) + 1 = l.length := by omega
                    have HG2 : Hid (R = conF n l m' (skpF l (p + 1)) (T ++ [⟨2, n, p, [], false⟩])) := by
                      show _ = _
                      rw [← HI.out.goes, conF_item n l m' p T c _ HDR.out HOV.out HIT.out hc45]
                    have e1 : ((p : Int) + 1) = ((p + 1 : Nat) : Int) := by omega
                    have sr : ∀ W, Calls Tryd.prog 33 #[.string ⟨l.toArray⟩, .int .i64 ((p : Int) + 1)] W fun e w' => e = .returned (.int .i64 (skpF l (p + 1))) ∧ w' = W := fun W => by rw [e1]; exact skip_ref l (p + 1) W (by omega) (by omega)
                    clear e1
                    obtain ⟨q, hq⟩ : ∃ q, skpF l (p + 1) = q := ⟨_, rfl⟩
                    have hq1 : p + 1 ≤ q := by rw [← hq]; exact skpF_ge l (p + 1) (by omega)
                    have hq2 : q ≤ l.length := by rw [← hq]; exact skpF_le l (p + 1)
                    have HSQ : Hid (∀ c, l[q]? = some c → ¬ c = 32) := fun c hc => skpF_at l c _ (p + 1) (Nat.le_refl _) (by rw [hq]; exact hc)
                    rw [hq] at sr HG2
                    rw [pe'] at sr
                    clear hq
                    have HROW : Hid (wr.ownsRow wc.heap.size 40 5 u9 NT (T.flatMap Tk.row)) := HNT.out ▸ HI.out.row
                    go_wp2_with first
                      | (go_at_call 34; refine nr.mono ?_; rintro e w' ⟨rfl, hw'⟩; obtain rfl : wr = w' := hw'.symm)
                      | (at_builtin; refine wpList_append_form _ rfl (.tmp 94) (.tmp 98) 23 rfl wc.heap.size 40 i40 _ 5 48 Tryd.underlying23 hi40 hy0 hy1 hy2 rfl (by decide) u9 NT (T.flatMap Tk.row) rfl (HROW.out.alloc _) ⟨wr.heap.size, 0, none⟩ 1 1 ([(⟨2, n, p, [], false⟩ : Tk)].flatMap Tk.row) rfl rfl (World.news_of_block (heap_alloc_new wr _)) (fun u hu => by obtain ⟨t, _, ht⟩ := List.mem_flatMap.1 hu; exact Tk.row_one t u ht) (by omega) (by unfold maxLen; omega) (by omega) (by simp; omega) ?_; intro g3 c3 w3 hown3 hgrow3; have HOW3 := hide2 hown3; have HGR3 := hide2 hgrow3; clear hown3 hgrow3)
                      | (go_at_call 33; refine (sr _).mono ?_; rintro e w' ⟨rfl, hw'⟩; obtain rfl : w3 = w' := hw'.symm)
                    go_roundw
                    case rel => exact ⟨T ++ [⟨2, n, p, [], false⟩], q, m', rfl, itm_next HI.out HNT.out HOW3.out HGR3.out HG2.out hq1 hq2 HSQ.out⟩
                    case measure => simp [intOf]; omega

                  · have ee := ix_eq ip1
                    have pe := ix_lt ip1
                    have pe' : ¬ (p : Int) + 1 = l.length := by omega
                    have pe2 : (p : Int) + 1 < l.length := by omega
                    have p1 : (0 : Int) ≤ (p : Int) + 1 := by omega
                    by_cases he : (e.toNat : Int) = 32
                    · have HIT : Hid (itmF (l.drop p) = true) := by show _ = _; rw [itm_two ip hc45 ip1, decide_eq_true he]
                      have HG2 : Hid (R = conF n l m' (skpF l (p + 1)) (T ++ [⟨2, n, p, [], false⟩])) := by
                        show _ = _
                        rw [← HI.out.goes, conF_item n l m' p T c _ HDR.out HOV.out HIT.out hc45]
                      have e1 : ((p : Int) + 1) = ((p + 1 : Nat) : Int) := by omega
                      have sr : ∀ W, Calls Tryd.prog 33 #[.string ⟨l.toArray⟩, .int .i64 ((p : Int) + 1)] W fun e w' => e = .returned (.int .i64 (skpF l (p + 1))) ∧ w' = W := fun W => by rw [e1]; exact skip_ref l (p + 1) W (by omega) (by omega)
                      clear e1
                      obtain ⟨q, hq⟩ : ∃ q, skpF l (p + 1) = q := ⟨_, rfl⟩
                      have hq1 : p + 1 ≤ q := by rw [← hq]; exact skpF_ge l (p + 1) (by omega)
                      have hq2 : q ≤ l.length := by rw [← hq]; exact skpF_le l (p + 1)
                      have HSQ : Hid (∀ c, l[q]? = some c → ¬ c = 32) := fun c hc => skpF_at l c _ (p + 1) (Nat.le_refl _) (by rw [hq]; exact hc)
                      rw [hq] at sr HG2
                      clear hq
                      have HROW : Hid (wr.ownsRow wc.heap.size 40 5 u9 NT (T.flatMap Tk.row)) := HNT.out ▸ HI.out.row
                      go_wp2_with first
                        | (go_at_call 34; refine nr.mono ?_; rintro e w' ⟨rfl, hw'⟩; obtain rfl : wr = w' := hw'.symm)
                        | (at_builtin; refine wpList_append_form _ rfl (.tmp 94) (.tmp 98) 23 rfl wc.heap.size 40 i40 _ 5 48 Tryd.underlying23 hi40 hy0 hy1 hy2 rfl (by decide) u9 NT (T.flatMap Tk.row) rfl (HROW.out.alloc _) ⟨wr.heap.size, 0, none⟩ 1 1 ([(⟨2, n, p, [], false⟩ : Tk)].flatMap Tk.row) rfl rfl (World.news_of_block (heap_alloc_new wr _)) (fun u hu => by obtain ⟨t, _, ht⟩ := List.mem_flatMap.1 hu; exact Tk.row_one t u ht) (by omega) (by unfold maxLen; omega) (by omega) (by simp; omega) ?_; intro g3 c3 w3 hown3 hgrow3; have HOW3 := hide2 hown3; have HGR3 := hide2 hgrow3; clear hown3 hgrow3)
                        | (go_at_call 33; refine (sr _).mono ?_; rintro e w' ⟨rfl, hw'⟩; obtain rfl : w3 = w' := hw'.symm)
                      go_roundw
                      case rel => exact ⟨T ++ [⟨2, n, p, [], false⟩], q, m', rfl, itm_next HI.out HNT.out HOW3.out HGR3.out HG2.out hq1 hq2 HSQ.out⟩
                      case measure => simp [intOf]; omega

                    · have HIT : Hid (itmF (l.drop p) = false) := by show _ = _; rw [itm_two ip hc45 ip1, decide_eq_false he]
                      have heb : ((e.toNat : Int) == 32) = false := by rw [beq_eq_false_iff_ne]; exact he
                      have HK := hide2 (HI.out.goes.symm.trans (conF_key n l m' p T c _ HDR.out HOV.out HIT.out))
                      have kr := key_ref l p c _ wr (by omega) HDR.out
                      have HROW : Hid (wr.ownsRow wc.heap.size 40 5 u9 NT (T.flatMap Tk.row)) := HNT.out ▸ HI.out.row
                      by_cases hE : quoF c.toNat = true ∧ unqF (l.drop p) = none
                      · have hke : keyE p c (l.drop p) = .returned (.tuple #[.string ⟨#[]⟩, .bool false, .int .i64 (-1), .int .i64 82]) := by rw [keyE, if_pos hE]
                        rw [hke] at kr
                        have HE : Hid (R = ([], 82)) := by
                          show _ = _
                          obtain ⟨h1, h2⟩ := key_bad (n := n) (T := T) HDR.out hE.1 hE.2
                          rw [HK.out, h1]
                          exact h2
                        clear hE hke HK
                        go_wp2_with first
                          | (go_at_call 34; refine nr.mono ?_; rintro e w' ⟨rfl, hw'⟩; obtain rfl : wr = w' := hw'.symm)
                          | (go_at_call 35; refine kr.mono ?_; rintro e w2 ⟨rfl, hb⟩; have HB2 := hide2 hb; clear hb)
                        refine bodyPost_ret (v := .tuple #[.slice none 0 0, .int .i64 82]) (by simp [results, Tryd.results23, go_sem]) rfl ?_
                        exact ⟨_, by rw [HE.out], by rw [HE.out]; exact World.ownsRow_nil _ _ _ _, HI.out.bel.trans (HB2.out.mono hsz)⟩
                      · rcases hk : keyF (l.drop p) with _ | ⟨t, kk⟩
                        · have hke : keyE p c (l.drop p) = .returned (.tuple #[.string ⟨#[]⟩, .bool false, .int .i64 (-1), .int .i64 0]) := by rw [keyE, if_neg hE, hk]
                          rw [hke] at kr
                          rw [hk] at HK
                          have HE : Hid (R = if ovrF (l.drop p) = true then (T, 0) else scaF n l p T) := by show _ = _; rw [HOV.out, if_neg (by decide)]; exact HK.out
                          clear hE hke HK hk
                          go_wp2_with first
                            | (go_at_call 34; refine nr.mono ?_; rintro e w' ⟨rfl, hw'⟩; obtain rfl : wr = w' := hw'.symm)
                            | (go_at_call 35; refine kr.mono ?_; rintro e w2 ⟨rfl, hb⟩; have HB2 := hide2 hb; clear hb)
                            | (go_at_call 36; refine (scalar_at R u9 T wc.heap.size l p n w2 HE.out (by omega) hpl HI.out.stop (by rw [HNT.out]; omega) (by have := HB2.out.size; omega) (own_blk HI.out.row (fun q hq => HB2.out.block q (HI.out.row.lt q hq).2))).mono ?_; rintro e w3 ⟨v3, rfl, hr3, hb3⟩; have HR3 := hide2 hr3; have HB3 := hide2 hb3; clear hr3 hb3)
                          refine bodyPost_ret (v := .tuple #[v3, .int .i64 R.2]) (by simp [results, Tryd.results23, go_sem]) rfl ?_
                          exact ⟨_, rfl, HR3.out, HI.out.bel.trans ((HB2.out.mono hsz).trans HB3.out)⟩
                        · have hke : keyE p c (l.drop p) = .returned (.tuple #[.string ⟨t.toArray⟩, .bool (quoF c.toNat), .int .i64 ((p + kk : Nat) : Int), .int .i64 0]) := by rw [keyE, if_neg hE, hk]
                          rw [hke] at kr
                          rw [hk] at HK
                          dsimp only at HK
                          obtain ⟨hk1, hk2⟩ := keyF_le hk
                          rw [List.length_drop] at hk2
                          obtain ⟨j, hj⟩ : ∃ j, p + kk = j := ⟨_, rfl⟩
                          rw [hj] at kr HK
                          have hjl : j ≤ l.length := by omega
                          have j0 : (0 : Int) ≤ j := by omega
                          have sr := fun W => skip_ref l j W (by omega) hjl
                          obtain ⟨q, hq⟩ : ∃ q, skpF l j = q := ⟨_, rfl⟩
                          have hq1 : j ≤ q := by rw [← hq]; exact skpF_ge l j hjl
                          have hq2 : q ≤ l.length := by rw [← hq]; exact skpF_le l j
                          have HSQ : Hid (∀ c, l[q]? = some c → ¬ c = 32) := fun c hc => skpF_at l c _ j (Nat.le_refl _) (by rw [hq]; exact hc)
                          rw [hq] at sr HK
                          obtain ⟨bq, hbq⟩ : ∃ b, quoF (c.toNat : Int) = b := ⟨_, rfl⟩
                          rw [hbq] at kr HK
                          clear hq hE hke hk hj hbq hk1 hk2
                          go_wp2_with first
                            | (go_at_call 34; refine nr.mono ?_; rintro e w' ⟨rfl, hw'⟩; obtain rfl : wr = w' := hw'.symm)
                            | (go_at_call 35; refine kr.mono ?_; rintro e w2 ⟨rfl, hb⟩; have HB2 := hide2 hb; have HR2 : Hid (w2.ownsRow wc.heap.size 40 5 u9 NT (T.flatMap Tk.row)) := own_blk HROW.out (fun q hq => HB2.out.block q (HROW.out.lt q hq).2); have hs2 := HB2.out.size; clear hb)
                            | (at_builtin; refine wpList_append_form _ rfl (.tmp 121) (.tmp 127) 23 rfl wc.heap.size 40 i40 _ 5 48 Tryd.underlying23 hi40 hy0 hy1 hy2 rfl (by decide) u9 NT (T.flatMap Tk.row) rfl (HR2.out.alloc _) ⟨w2.heap.size, 0, none⟩ 1 1 ([(⟨3, n, p, t, bq⟩ : Tk)].flatMap Tk.row) rfl rfl (World.news_of_block (heap_alloc_new w2 _)) (fun u hu => by obtain ⟨t, _, ht⟩ := List.mem_flatMap.1 hu; exact Tk.row_one t u ht) (by omega) (by unfold maxLen; omega) (by omega) (by simp; omega) ?_; intro g3 c3 w3 hown3 hgrow3; have HTF := hide2 (toks_fin (R := (T ++ [⟨3, n, p, t, bq⟩], 0)) rfl HNT.out (Below.refl _ w2) (by omega) HR2.out hown3 hgrow3); clear hown3 hgrow3)
                            | (go_at_call 33; refine (sr _).mono ?_; rintro e w' ⟨rfl, hw'⟩; obtain rfl : w3 = w' := hw'.symm)
                            | (go_at_call 36; have HR4 := hide2 (toks_out HTF.out).1; have HB4 := hide2 (toks_out HTF.out).2; have hs4 := HB4.out.size; clear HTF; refine (scalar_at R _ (T ++ [⟨3, n, p, t, bq⟩]) wc.heap.size l q n w3 HK.out (by omega) hq2 HSQ.out (by rw [List.length_append, HNT.out]; simp; omega) (by omega) HR4.out).mono ?_; rintro e w5 ⟨v5, rfl, hr5, hb5⟩; have HR5 := hide2 hr5; have HB5 := hide2 hb5; clear hr5 hb5)
                          refine bodyPost_ret (v := .tuple #[v5, .int .i64 R.2]) (by simp [results, Tryd.results23, go_sem]) rfl ?_
                          exact ⟨_, rfl, HR5.out, HI.out.bel.trans ((HB2.out.mono hsz).trans (HB4.out.trans HB5.out))⟩

                · have hc45b : ((c.toNat : Int) == 45) = false := by rw [beq_eq_false_iff_ne]; exact hc45
                  have HIT := hide2 (itm_not ip hc45)
                  have HK := hide2 (HI.out.goes.symm.trans (conF_key n l m' p T c _ HDR.out HOV.out HIT.out))
                  have kr := key_ref l p c _ wr (by omega) HDR.out
                  have HROW : Hid (wr.ownsRow wc.heap.size 40 5 u9 NT (T.flatMap Tk.row)) := HNT.out ▸ HI.out.row
                  by_cases hE : quoF c.toNat = true ∧ unqF (l.drop p) = none
                  · have hke : keyE p c (l.drop p) = .returned (.tuple #[.string ⟨#[]⟩, .bool false, .int .i64 (-1), .int .i64 82]) := by rw [keyE, if_pos hE]
                    rw [hke] at kr
                    have HE : Hid (R = ([], 82)) := by
                      show _ = _
                      obtain ⟨h1, h2⟩ := key_bad (n := n) (T := T) HDR.out hE.1 hE.2
                      rw [HK.out, h1]
                      exact h2
                    clear hE hke HK
                    go_wp2_with first
                      | (go_at_call 34; refine nr.mono ?_; rintro e w' ⟨rfl, hw'⟩; obtain rfl : wr = w' := hw'.symm)
                      | (go_at_call 35; refine kr.mono ?_; rintro e w2 ⟨rfl, hb⟩; have HB2 := hide2 hb; clear hb)
                    refine bodyPost_ret (v := .tuple #[.slice none 0 0, .int .i64 82]) (by simp [results, Tryd.results23, go_sem]) rfl ?_
                    exact ⟨_, by rw [HE.out], by rw [HE.out]; exact World.ownsRow_nil _ _ _ _, HI.out.bel.trans (HB2.out.mono hsz)⟩
                  · rcases hk : keyF (l.drop p) with _ | ⟨t, kk⟩
                    · have hke : keyE p c (l.drop p) = .returned (.tuple #[.string ⟨#[]⟩, .bool false, .int .i64 (-1), .int .i64 0]) := by rw [keyE, if_neg hE, hk]
                      rw [hke] at kr
                      rw [hk] at HK
                      have HE : Hid (R = if ovrF (l.drop p) = true then (T, 0) else scaF n l p T) := by show _ = _; rw [HOV.out, if_neg (by decide)]; exact HK.out
                      clear hE hke HK hk
                      go_wp2_with first
                        | (go_at_call 34; refine nr.mono ?_; rintro e w' ⟨rfl, hw'⟩; obtain rfl : wr = w' := hw'.symm)
                        | (go_at_call 35; refine kr.mono ?_; rintro e w2 ⟨rfl, hb⟩; have HB2 := hide2 hb; clear hb)
                        | (go_at_call 36; refine (scalar_at R u9 T wc.heap.size l p n w2 HE.out (by omega) hpl HI.out.stop (by rw [HNT.out]; omega) (by have := HB2.out.size; omega) (own_blk HI.out.row (fun q hq => HB2.out.block q (HI.out.row.lt q hq).2))).mono ?_; rintro e w3 ⟨v3, rfl, hr3, hb3⟩; have HR3 := hide2 hr3; have HB3 := hide2 hb3; clear hr3 hb3)
                      refine bodyPost_ret (v := .tuple #[v3, .int .i64 R.2]) (by simp [results, Tryd.results23, go_sem]) rfl ?_
                      exact ⟨_, rfl, HR3.out, HI.out.bel.trans ((HB2.out.mono hsz).trans HB3.out)⟩
                    · have hke : keyE p c (l.drop p) = .returned (.tuple #[.string ⟨t.toArray⟩, .bool (quoF c.toNat), .int .i64 ((p + kk : Nat) : Int), .int .i64 0]) := by rw [keyE, if_neg hE, hk]
                      rw [hke] at kr
                      rw [hk] at HK
                      dsimp only at HK
                      obtain ⟨hk1, hk2⟩ := keyF_le hk
                      rw [List.length_drop] at hk2
                      obtain ⟨j, hj⟩ : ∃ j, p + kk = j := ⟨_, rfl⟩
                      rw [hj] at kr HK
                      have hjl : j ≤ l.length := by omega
                      have j0 : (0 : Int) ≤ j := by omega
                      have sr := fun W => skip_ref l j W (by omega) hjl
                      obtain ⟨q, hq⟩ : ∃ q, skpF l j = q := ⟨_, rfl⟩
                      have hq1 : j ≤ q := by rw [← hq]; exact skpF_ge l j hjl
                      have hq2 : q ≤ l.length := by rw [← hq]; exact skpF_le l j
                      have HSQ : Hid (∀ c, l[q]? = some c → ¬ c = 32) := fun c hc => skpF_at l c _ j (Nat.le_refl _) (by rw [hq]; exact hc)
                      rw [hq] at sr HK
                      obtain ⟨bq, hbq⟩ : ∃ b, quoF (c.toNat : Int) = b := ⟨_, rfl⟩
                      rw [hbq] at kr HK
                      clear hq hE hke hk hj hbq hk1 hk2
                      go_wp2_with first
                        | (go_at_call 34; refine nr.mono ?_; rintro e w' ⟨rfl, hw'⟩; obtain rfl : wr = w' := hw'.symm)
                        | (go_at_call 35; refine kr.mono ?_; rintro e w2 ⟨rfl, hb⟩; have HB2 := hide2 hb; have HR2 : Hid (w2.ownsRow wc.heap.size 40 5 u9 NT (T.flatMap Tk.row)) := own_blk HROW.out (fun q hq => HB2.out.block q (HROW.out.lt q hq).2); have hs2 := HB2.out.size; clear hb)
                        | (at_builtin; refine wpList_append_form _ rfl (.tmp 121) (.tmp 127) 23 rfl wc.heap.size 40 i40 _ 5 48 Tryd.underlying23 hi40 hy0 hy1 hy2 rfl (by decide) u9 NT (T.flatMap Tk.row) rfl (HR2.out.alloc _) ⟨w2.heap.size, 0, none⟩ 1 1 ([(⟨3, n, p, t, bq⟩ : Tk)].flatMap Tk.row) rfl rfl (World.news_of_block (heap_alloc_new w2 _)) (fun u hu => by obtain ⟨t, _, ht⟩ := List.mem_flatMap.1 hu; exact Tk.row_one t u ht) (by omega) (by unfold maxLen; omega) (by omega) (by simp; omega) ?_; intro g3 c3 w3 hown3 hgrow3; have HTF := hide2 (toks_fin (R := (T ++ [⟨3, n, p, t, bq⟩], 0)) rfl HNT.out (Below.refl _ w2) (by omega) HR2.out hown3 hgrow3); clear hown3 hgrow3)
                        | (go_at_call 33; refine (sr _).mono ?_; rintro e w' ⟨rfl, hw'⟩; obtain rfl : w3 = w' := hw'.symm)
                        | (go_at_call 36; have HR4 := hide2 (toks_out HTF.out).1; have HB4 := hide2 (toks_out HTF.out).2; have hs4 := HB4.out.size; clear HTF; refine (scalar_at R _ (T ++ [⟨3, n, p, t, bq⟩]) wc.heap.size l q n w3 HK.out (by omega) hq2 HSQ.out (by rw [List.length_append, HNT.out]; simp; omega) (by omega) HR4.out).mono ?_; rintro e w5 ⟨v5, rfl, hr5, hb5⟩; have HR5 := hide2 hr5; have HB5 := hide2 hb5; clear hr5 hb5)
                      refine bodyPost_ret (v := .tuple #[v5, .int .i64 R.2]) (by simp [results, Tryd.results23, go_sem]) rfl ?_
                      exact ⟨_, rfl, HR5.out, HI.out.bel.trans ((HB2.out.mono hsz).trans (HB4.out.trans HB5.out))⟩


              · rw [hov] at nr
                have HE : Hid (R = (T, 0)) := by show _ = _; rw [← HI.out.goes, conF_over hov]
                clear hov
                go_wp2_with (go_at_call 34; refine nr.mono ?_; rintro e w' ⟨rfl, hw'⟩; obtain rfl : wr = w' := hw'.symm)
                refine bodyPost_ret (v := .tuple #[u9, .int .i64 0]) (by simp [results, Tryd.results23, go_sem]) rfl ?_
                exact ⟨_, by rw [HE.out], by rw [HE.out]; exact HI.out.row, HI.out.bel⟩
        · have ek := ix_eq ik
          have kl := ix_lt ik
          have kl' : (k : Int) < l.length := by omega
          cases hc : unsF (c.toNat : Int) with
          | true =>
            have HR : Hid (R = ([], 83)) := HR0.out.symm.trans <| read_83 n HN.out (any_hit (fun c => unsF c.toNat) ik hc)
            have hc' := of_decide_eq_true hc
            by_cases h32 : (c.toNat : Int) < 32
            · go_wp2
              refine bodyPost_ret (v := .tuple #[.slice none 0 0, .int .i64 83]) (by simp [results, Tryd.results23, go_sem]) rfl ?_
              exact ⟨_, by rw [HR.out], by rw [HR.out]; exact World.ownsRow_nil _ _ _ _, Below.refl _ _⟩
            · have h127 : (c.toNat : Int) = 127 := by omega
              clear hc'
              go_wp2
              refine bodyPost_ret (v := .tuple #[.slice none 0 0, .int .i64 83]) (by simp [results, Tryd.results23, go_sem]) rfl ?_
              exact ⟨_, by rw [HR.out], by rw [HR.out]; exact World.ownsRow_nil _ _ _ _, Below.refl _ _⟩
          | false =>
            have hc' := of_decide_eq_false hc
            have h32 : ¬ (c.toNat : Int) < 32 := by omega
            have h127 : ¬ (c.toNat : Int) = 127 := by omega
            have h127b : ((c.toNat : Int) == 127) = false := by rw [beq_eq_false_iff_ne]; exact h127
            have HT : Hid ((l.take (k + 1)).any (fun c => unsF c.toNat) = false) := any_take _ ik HA.out hc
            clear hc'
            go_wp2_with fail
            go_roundw
            case rel => exact ⟨k + 1, by go_num, by omega, HT.out, trivial⟩
            case measure => simp [intOf]; omega
    · have ek := ix_eq ik
      have kl := ix_lt ik
      have kl' : (k : Int) < l.length := by omega
      by_cases hc : (c.toNat : Int) = 9
      · have hc' : c = 9 := UInt8.toNat_inj.1 (by show c.toNat = 9; omega)
        have HR : Hid (R = ([], 80)) := HR0.out.symm.trans <| read_80 n (any_hit (fun c => c == 9) ik (by rw [hc']; rfl))
        go_wp2
        refine bodyPost_ret (v := .tuple #[.slice none 0 0, .int .i64 80]) (by simp [results, Tryd.results23, go_sem]) rfl ?_
        exact ⟨_, by rw [HR.out], by rw [HR.out]; exact World.ownsRow_nil _ _ _ _, Below.refl _ _⟩
      · have HT : Hid ((l.take (k + 1)).any (fun c => c == 9) = false) := any_take _ ik HA.out (by
          rw [beq_eq_false_iff_ne]; intro e; exact hc (by rw [e]; rfl))
        go_wp2_with fail
        go_roundw
        case rel => exact ⟨k + 1, by go_num, by omega, HT.out, trivial⟩
        case measure => simp [intOf]; omega
end Go.Proofs.YtjmgngocpokpgaaDoor
