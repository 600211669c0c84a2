/-
  Hosts, paths, methods asked; a host folded.
-/
import Derived.Test.YtfhobglcploaoaaDoorKPa
import Derived.Test.YtfhobglcploaoaaDoorKTurn
import Derived.OwnWalk
import Derived.Laws.BytesString
import Derived.Lib.AppendStr
import Derived.Laws.Concat
namespace Go.Proofs.YtfhobglcploaoaaDoor.Kk
open Go.RowKit
set_option linter.unusedVariables false
set_option linter.unusedSimpArgs false
set_option maxRecDepth 100000
def hostB (l : List UInt8) : Bool := decide (l.length ≤ 64) && madF hosF l
def pathB (l : List UInt8) : Bool := decide (l.length ≤ 256) && madF patF l && (l.head? == some 47)
def methB (l : List UInt8) : Bool := decide (l.length ≤ 64) && madF greF l
theorem isHost_any (l : List UInt8) (w : World) (hs : l.length ≤ 2 ^ 62) : Calls Tryd.prog 44 #[.string ⟨l.toArray⟩] w fun e w' => e = .returned (.bool (hostB l)) ∧ w' = w := by
  by_cases hl : l.length ≤ 64
  · go_enter Tryd.func44, Tryd.ntmps44
    go_wp2_with (go_at_call 51; refine (made_host l _ hs).mono ?_; rintro e w' ⟨rfl, rfl⟩)
    go_ret
    exact ⟨ret_bool (by simp [hostB, hl]), rfl⟩
  · go_enter Tryd.func44, Tryd.ntmps44
    go_wp2_with (go_at_call 51; refine (made_host l _ hs).mono ?_; rintro e w' ⟨rfl, rfl⟩)
    go_ret
    exact ⟨ret_bool (by simp [hostB, hl]), rfl⟩
theorem isPath_any (l : List UInt8) (w : World) (hs : l.length ≤ 2 ^ 62) : Calls Tryd.prog 49 #[.string ⟨l.toArray⟩] w fun e w' => e = .returned (.bool (pathB l)) ∧ w' = w := by
  have hM := made_path l w hs
  by_cases hl : l.length ≤ 256
  · cases hm : madF patF l with
    | false =>
      have HE : Hid (pathB l = false) := by simp [Hid, pathB, hm]
      rw [hm] at hM
      clear hm
      go_enter Tryd.func49, Tryd.ntmps49
      go_wp2_with (go_at_call 51; refine hM.mono ?_; rintro e w' ⟨rfl, rfl⟩)
      go_ret
      exact ⟨ret_bool HE.out.symm, rfl⟩
    | true =>
      rw [hm] at hM
      rcases l with _ | ⟨c, l⟩
      · simp [madF] at hm
      have HE : Hid (pathB (c :: l) = ((c.toNat : Int) == 47)) := by
        have : (c == 47) = ((c.toNat : Int) == 47) := by rw [Bool.eq_iff_iff]; simp [← UInt8.toNat_inj]; omega
        simp only [List.length_cons] at hl
        simp [Hid, pathB, hm, hl]
        rw [← this]
      clear hm
      have hl1 : (l.length : Int) + 1 ≤ 256 := by simp only [List.length_cons] at hl; omega
      have hl2 : l.length ≤ 255 := by simp only [List.length_cons] at hl; omega
      go_enter Tryd.func49, Tryd.ntmps49
      go_wp2_with (go_at_call 51; refine hM.mono ?_; rintro e w' ⟨rfl, rfl⟩)
      go_ret
      exact ⟨ret_bool (by rw [HE.out]; rfl), rfl⟩
  · go_enter Tryd.func49, Tryd.ntmps49
    go_wp2_with (go_at_call 51; refine hM.mono ?_; rintro e w' ⟨rfl, rfl⟩)
    go_ret
    exact ⟨ret_bool (by simp [pathB, hl]), rfl⟩
def smlF (c : UInt8) : UInt8 := UInt8.ofNat (smlI (c.toNat : Int)).toNat
theorem smlI_bd (c : UInt8) : 0 ≤ smlI c.toNat ∧ smlI c.toNat ≤ 255 := by
  have := c.toNat_lt
  unfold smlI greF
  split
  · rename_i h; simp at h; omega
  · omega
theorem smlF_nat (c : UInt8) : ((smlF c).toNat : Int) = smlI c.toNat := by
  have := smlI_bd c
  unfold smlF
  rw [UInt8.toNat_ofNat']
  omega
def fldF (l : List UInt8) : List UInt8 := l.map smlF
def zL (l : List UInt8) : List Int := l.map fun c => (c.toNat : Int)
theorem zL_length (l : List UInt8) : (zL l).length = l.length := by simp [zL]
theorem zL_append (a b : List UInt8) : zL (a ++ b) = zL a ++ zL b := by simp [zL]
theorem fold_push : ∀ (l : List UInt8) (s : ByteArray), (zL l).foldl (fun r n => r.push (UInt8.ofNat n.toNat)) s = ⟨s.data ++ l.toArray⟩
  | [], s => by simp [zL]
  | c :: l, s => by
    have := fold_push l (s.push c)
    simp only [zL, List.map_cons, List.foldl_cons] at this ⊢
    have e : UInt8.ofNat (c.toNat : Int).toNat = c := by simp
    rw [e]
    rw [this]
    simp [ByteArray.push]
theorem Tryd.info5 : (Tryd.prog.info? 5).map (fun i => (i.zero, i.size, i.bytes)) = some (some (.int .u8 0), 1, 1) := by kernel_rfl
theorem info_parts {P : Program} {t : TypeId} {z : Option Value} {s b : Nat} (h : (P.info? t).map (fun i => (i.zero, i.size, i.bytes)) = some (z, s, b)) : ∃ i, P.info? t = some i ∧ i.zero = z ∧ i.size = s ∧ i.bytes = b := by
  rcases hi : P.info? t with _ | i
  · rw [hi] at h; cases h
  · rw [hi] at h; simp at h; exact ⟨i, rfl, h.1, h.2.1, h.2.2⟩
theorem vals_set (zs : List Int) (i : Nat) (z : Int) : vals (zs.set i z) = (vals zs).set i (.int .u8 z) := by simp [vals, List.map_set]
theorem str_has (w : World) (g n cap : Nat) (l : List UInt8) (hn : l.length = n) (hB : Has w (some ⟨g, 0, none⟩) (zL l)) : (convert 75 9 (.slice (some ⟨g, 0, none⟩) n cap)).run Tryd.prog w = .ok (.string ⟨l.toArray⟩) w := by
  subst hn
  rcases hB with ⟨h, _⟩ | ⟨x, hx, hc⟩
  · cases h
  cases hx
  rw [run_convert_bytes_string w 75 9 5 _ _ _ Tryd.underlying75 Tryd.underlying5 Tryd.underlying9]
  have hl := run_loadCells_list (P := Tryd.prog) w ⟨g, 0, none⟩ ((zL l).map (Value.int .u8)) (fun j v hj => by
    obtain ⟨hj', rfl⟩ := vals_at (zL l) j v hj
    exact hc j hj')
  simp only [List.length_map, zL_length] at hl
  have := run_bytesToString w ⟨g, 0, none⟩ l.length cap (zL l) hl
  rw [this, fold_push]
  congr
  simp
theorem made_bytes {w w1 : World} {n : Nat} (hown : w1.ownsRow w.heap.size 5 1 (.slice (some ⟨w.heap.size, 0, none⟩) n n) n (madeCells (Value.int .u8 0).cells (n * 1)).toList) : ∃ L : List Int, L.length = n ∧ w1.heap[w.heap.size]? = some (.cells (vals L).toArray 5 (0, 0)) := by
  rcases hown.2 with ⟨h, _⟩ | ⟨g', cap', cur, hv, _, hh, _, _, h2, h3⟩
  · cases h
  cases hv
  refine ⟨List.replicate n 0, by simp, ?_⟩
  rw [hh]
  have e : cur.toList = vals (List.replicate n 0) := by
    rw [List.take_of_length_le (by simp [h2])] at h3
    rw [h3]
    have e1 : (Value.int .u8 0).cells = #[.int .u8 0] := rfl
    rw [e1, toList_madeCells_one, Nat.mul_one]
    simp [vals]
  rw [← e]
theorem fold_no (l : List UInt8) (w : World) (hs : l.length ≤ 2 ^ 62) (h : hostB l = false) : Calls Tryd.prog 33 #[.string ⟨l.toArray⟩] w fun e w' => e = .returned (.tuple #[.string ⟨#[]⟩, .bool false]) ∧ w' = w := by
  have hI := isHost_any l w hs
  rw [h] at hI
  go_enter Tryd.func33, Tryd.ntmps33
  go_wp2_with (go_at_call 44; refine hI.mono ?_; rintro e w' ⟨rfl, rfl⟩)
  go_ret2
  exact ⟨rfl, rfl⟩
theorem cell_vals {w : World} {B : Nat} {L : List Int} {t : TypeId} {fr : Nat × Nat} (hb : w.heap[B]? = some (.cells (vals L).toArray t fr)) (j : Nat) (hj : j < L.length) : w.cell? ⟨B, j, none⟩ = some (.int .u8 (L.getD j 0)) := by
  have h1 : (vals L).toArray.toList[j]? = some (.int .u8 (L.getD j 0)) := by simpa using vals_get L j hj
  have := World.news_of_block hb j _ h1
  rw [Go.WideShapes.add_plain, Nat.zero_add] at this
  exact this
set_option maxHeartbeats 4000000 in
theorem fold_ok (l : List UInt8) (w : World) (hs : l.length ≤ 2 ^ 62) (h : hostB l = true) : Calls Tryd.prog 33 #[.string ⟨l.toArray⟩] w fun e w' => e = .returned (.tuple #[.string ⟨(fldF l).toArray⟩, .bool true]) ∧ Below w.heap.size w w' := by
  have hI := isHost_any l w hs
  rw [h] at hI
  have hl64 : l.length ≤ 64 := by simp [hostB] at h; exact h.1
  clear h hs
  obtain ⟨i5, hi5, hz0, hz1, hz2⟩ := info_parts Tryd.info5
  obtain ⟨n, hn⟩ : ∃ n, l.length = n := ⟨_, rfl⟩
  have HN := hide2 hn
  rw [hn] at hl64
  go_enter Tryd.func33, Tryd.ntmps33
  go_wp2_with (first
    | (go_at_call 44; refine hI.mono ?_; rintro e w1 ⟨rfl, hw⟩; have hw := hw.symm; subst hw)
    | (at_make; refine wpList_make_full _ rfl (.tmp 10) (.tmp 10) 75 rfl w.heap.size 5 i5 (.int .u8 0) 1 Tryd.underlying75 hi5 hz0 hz1 .i64 .i64 n n n rfl rfl rfl rfl (by rw [hz2]; omega) (by unfold maxLen; omega) (Nat.le_refl _) ?_; intro w2 hown hgrow; obtain ⟨L, HLn, HLb⟩ := made_bytes hown; have HB : Hid (Below w.heap.size w w2) := (Below.refl _ w).grown hgrow (Nat.le_refl _) (fun k h => by cases h); have HK : Hid (L.length = n ∧ w2.heap[w.heap.size]? = some (.cells (vals L).toArray 5 (0, 0))) := ⟨HLn, HLb⟩; clear HLn HLb hown hgrow hn))
  obtain ⟨B, hB⟩ : ∃ B, w.heap.size = B := ⟨_, rfl⟩
  have HBB := hide2 hB
  rw [hB] at HB HK ⊢
  clear hB hI
  go_loopw [14] (fun t wr => ∃ (k : Nat) (L : List Int), k ≤ n ∧ t = .int .i64 k ∧ Hid (L.length = n ∧ wr.heap[B]? = some (.cells (vals L).toArray 5 (0, 0))) ∧ Hid (∀ i, i < k → L.getD i 0 = smlI ((l.getD i 0).toNat : Int)) ∧ Hid (Below B w wr)) (fun t _ => n - (intOf t).toNat)
  case atStart => exact ⟨0, L, by omega, rfl, HK, (fun i h => by omega : ∀ i, i < 0 → L.getD i 0 = smlI ((l.getD i 0).toNat : Int)), HB⟩
  case round =>
    clear HK HB
    obtain ⟨k, L, hk, rfl, HK, HI, HB⟩ := hrel
    have k0 : (0 : Int) ≤ k := by omega
    by_cases hlt : k < n
    · have hlt' : (k : Int) < n := by omega
      have hkl : k < l.length := by rw [HN.out]; exact hlt
      have hkl' : (k : Int) < l.length := by omega
      have c2 : wr.cell? ⟨B, k, none⟩ = some (.int .u8 (L.getD k 0)) := cell_vals HK.out.2 k (by have := HK.out.1; omega)
      have c3 : wr.frozen? ⟨B, k, none⟩ = false := by simp [World.frozen?, HK.out.2]
      obtain ⟨u, hu⟩ : ∃ u, L.getD k 0 = u := ⟨_, rfl⟩
      rw [hu] at c2
      have hS := small_any (l[k].toNat : Int) (u8_lo _) (u8_hi _) wr
      obtain ⟨z, hz⟩ : ∃ z, smlI (l[k].toNat : Int) = z := ⟨_, rfl⟩
      rw [hz] at hS
      have HZ : Hid (smlI ((l.getD k 0).toNat : Int) = z) := by rw [← hz]; simp [Hid, hkl]
      clear hz hu
      go_wp2_with (go_at_call 45; refine hS.mono ?_; rintro e w3 ⟨rfl, hw⟩; have hw := hw.symm; subst hw)
      go_roundw
      case rel =>
        refine ⟨k + 1, L.set k z, by omega, by go_num, ⟨by simpa using HK.out.1, by rw [block_setCell HK.out.2, vals_set]; simp⟩, (fun i hi => ?_ : ∀ i, i < k + 1 → (L.set k z).getD i 0 = smlI ((l.getD i 0).toNat : Int)), HB.out.trans ((But.set k _).below (by have := HB.out.size; have := HBB.out; omega) (Nat.le_refl _))⟩
        by_cases h : i = k
        · subst h
          rw [HZ.out]
          have := HK.out.1
          simp [List.getD, this, hlt]
        · have := HI.out i (by omega)
          rw [← this]
          simp [List.getD, List.getElem?_set, Ne.symm h]
      case measure => simp [intOf]; omega
    · have hlt' : ¬ (k : Int) < n := by omega
      have hkn : k = n := by omega
      have hL : L = zL (fldF l) := by
        apply List.ext_getElem
        · rw [HK.out.1, zL_length, fldF, List.length_map, HN.out]
        intro i h1 h2
        have := HI.out i (by rw [HK.out.1] at h1; omega)
        have hil : i < l.length := by rw [HN.out, ← HK.out.1]; exact h1
        simp [List.getD, h1, hil] at this
        simp [zL, fldF, smlF_nat, this]
      have hcv := str_has wr B n n (fldF l) (by rw [fldF, List.length_map, HN.out]) (by rw [← hL]; exact Has.of_block HK.out.2)
      clear hL hkn
      have hkl' : ¬ (k : Int) < l.length := by have := HN.out; omega
      go_wp2
      go_ret2
      exact ⟨rfl, by rw [HBB.out]; exact HB.out⟩
end Go.Proofs.YtfhobglcploaoaaDoor.Kk
