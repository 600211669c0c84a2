import Derived.Test.YtmmnpnhffgpchaaGreatDoorBn11
import Derived.Test.YtmmnpnhffgpchaaGreatDoorLBuf
import Derived.Test.YtmmnpnhffgpchaaGreatDoorBn9
import Derived.Test.YtmmnpnhffgpchaaGreatDoorBs5
import Derived.Test.YtmmnpnhffgpchaaGreatDoorBs1
import Derived.Test.YtmmnpnhffgpchaaGreatDoorCards
import Derived.Test.YtmmnpnhffgpchaaGreatDoorTie
import Derived.SevenTiedAt
import Derived.Deep.DeepHandedRow
import Derived.Lay
/-
  Bytes that the statement lends out: made, looked at, turned.
-/
namespace Go.Proofs.YtmmnpnhffgpchaaGreatDoor.Ln
open Go.RowKit
set_option linter.unusedVariables false
set_option linter.unusedSimpArgs false
set_option maxRecDepth 100000
theorem oct_marks : Octets [201, 202] := fun j => by match j with | 0 => simp | 1 => simp | j + 2 => simp
structure Len9 (w : World) (base g off n cp : Nat) (l : List UInt8) : Prop where
  len : l.length = n
  buf : Buf w base (.slice (some ⟨g, off, none⟩) (n + 2) cp) (zL l ++ [201, 202])
theorem Len9.parts {w : World} {base g off n cp : Nat} {l : List UInt8} (h : Len9 w base g off n cp l) : base ≤ g ∧ g < w.heap.size ∧ n + 2 ≤ cp ∧ cp ≤ maxLen ∧ ∃ cur, w.heap[g]? = some (.cells cur 5 (0, 0)) ∧ off + cp ≤ cur.size ∧ ∀ j, j < n + 2 → w.cell? ⟨g, off + j, none⟩ = some (.int .u8 ((zL l ++ [201, 202]).getD j 0)) := by
  have hz : (zL l ++ [201, 202]).length = n + 2 := by simp [zL_length, h.len]
  rcases h.buf.2 with ⟨e, _⟩ | ⟨g', off', cap, cur, e, hb, hg, h1, h2, h3, h4⟩
  · cases e
  · injection e with e1 e2 e3
    cases e1
    subst e3
    have hlt := (Array.getElem?_eq_some_iff.1 hg).1
    exact ⟨hb, hlt, by omega, h2, cur, hg, h3, fun j hj => h4 j (by omega)⟩
theorem Len9.at_ {w : World} {base g off n cp : Nat} {l : List UInt8} (h : Len9 w base g off n cp l) {i : Nat} {c : UInt8} (hi : l[i]? = some c) : w.cell? ⟨g, off + i, none⟩ = some (.int .u8 (c.toNat : Int)) ∧ w.frozen? ⟨g, off + i, none⟩ = false := by
  obtain ⟨_, _, _, _, cur, hg, _, hc⟩ := h.parts
  have hlt := (List.getElem?_eq_some_iff.1 hi).1
  have hll := h.len
  refine ⟨?_, by simp [World.frozen?, hg]⟩
  rw [hc i (by omega)]
  have : (zL l ++ [201, 202])[i]? = some (c.toNat : Int) := by
    rw [List.getElem?_append_left (by rw [zL_length]; exact hlt)]
    simp [zL, hi]
  simp [List.getD, this]
theorem Len9.has {w : World} {base g off n cp : Nat} {l : List UInt8} (h : Len9 w base g off n cp l) : Has w (some ⟨g, off, none⟩) (zL l) := by
  obtain ⟨_, _, _, _, cur, hg, _, hc⟩ := h.parts
  refine .inr ⟨_, rfl, fun j hj => ?_⟩
  have hj' : j < n := by rw [zL_length, h.len] at hj; exact hj
  rw [Addr.add_lit, hc j (by omega)]
  simp [List.getD, List.getElem?_append_left hj]
theorem Len9.keep {w w' : World} {base g off n cp : Nat} {l : List UInt8} (h : Len9 w base g off n cp l) (hb : w'.heap[g]? = w.heap[g]?) : Len9 w' base g off n cp l :=
  ⟨h.len, h.buf.keep fun k hk => by cases hk; exact hb⟩
theorem Len9.set {w : World} {base g off n cp i : Nat} {l : List UInt8} (h : Len9 w base g off n cp l) (hi : i < n) (c : UInt8) : Len9 (w.setCell ⟨g, off + i, none⟩ (.int .u8 (c.toNat : Int))) base g off n cp (l.set i c) := by
  obtain ⟨hb, hlt, h1, h2, cur, hg, h3, hc⟩ := h.parts
  have hll := h.len
  have hz : (zL (l.set i c) ++ [201, 202]).length = n + 2 := by simp [zL_length, hll]
  have hg' := heap_setCell_same w g (off + i) cur 5 (.int .u8 (c.toNat : Int)) hg
  refine ⟨by simp [hll], ⟨?_, .inr ⟨g, off, cp, _, by rw [hz], hb, hg', by omega, h2, by simpa using h3, fun j hj => ?_⟩⟩⟩
  · exact Octets.append (oct_zL _) oct_marks
  · rw [hz] at hj
    have hcj := hc j hj
    rw [cell_block hg] at hcj
    rw [cell_block hg']
    by_cases hji : j = i
    · subst hji
      have hsz : off + j < cur.size := by omega
      have e : (zL (l.set j c) ++ [201, 202])[j]? = some (c.toNat : Int) := by
        rw [List.getElem?_append_left (by rw [zL_length]; simp; omega)]
        simp [zL, List.getElem?_set, hll, hi]
      simp [List.getD, e, Array.getElem?_setIfInBounds, hsz]
    · rw [Array.getElem?_setIfInBounds_ne (by omega), hcj]
      have e : (zL (l.set i c) ++ [201, 202])[j]? = (zL l ++ [201, 202])[j]? := by
        by_cases hjn : j < n
        · rw [List.getElem?_append_left (by rw [zL_length]; simp; omega), List.getElem?_append_left (by rw [zL_length]; omega)]
          simp [zL, List.getElem?_set_ne (Ne.symm hji)]
        · rw [List.getElem?_append_right (by rw [zL_length]; simp; omega), List.getElem?_append_right (by rw [zL_length]; omega), zL_length, zL_length]
          simp
      simp [List.getD, e]
theorem fin9 {w w1 w2 : World} {v1 v2 : Value} {l : List UInt8} {n : Nat} (hn : l.length = n) (B1 : Hid (Below w.heap.size w w1)) (H1 : Hid (Buf (w1.alloc (.cells #[.int .u8 201, .int .u8 202] 5 (0, 0))) w.heap.size v1 (zL l))) (h2 : Buf w2 w.heap.size v2 (zL l ++ [201, 202])) (hg : (w1.alloc (.cells #[.int .u8 201, .int .u8 202] 5 (0, 0))).grownBy w2 v1.ownBlock) :
    ∃ g off cp, v2 = .slice (some ⟨g, off, none⟩) (n + 2) cp ∧ Hid (Len9 w2 w.heap.size g off n cp l) ∧ (n : Int) + 2 ≤ cp ∧ (cp : Int) ≤ 9223372036854775807 ∧ Hid (Below w.heap.size w w2) := by
  have bw : Below w.heap.size w w2 := (B1.out.alloc B1.out.size _).grown hg (by have := B1.out.size; simp; omega) (fun k hk => (H1.out.low hk).1)
  have hle : (zL l ++ [201, 202]).length = n + 2 := by simp [zL_length, hn]
  rcases h2.2 with ⟨_, h⟩ | ⟨g, off, cap, cur, e, hb, hgg, q1, q2, q3, q4⟩
  · simp at h
  · rw [hle] at e q1
    unfold maxLen at q2
    exact ⟨g, off, cap, e, ⟨hn, e ▸ h2⟩, by omega, by omega, bw⟩
set_option maxHeartbeats 4000000 in
theorem lent4 (w : World) (a : Option Addr) (n cap : Nat) (l : List UInt8) (hn : l.length = n) (hB : Has w a (zL l)) (hbare : a = none → cap = 0) (hl : n ≤ 140737488351232) :
    Calls Tryz.prog 4 #[.slice a n cap] w fun e w' => ∃ g off cp, e = .returned (.slice (some ⟨g, off, none⟩) n cp) ∧ Len9 w' w.heap.size g off n cp l ∧ Below w.heap.size w w' := by
  obtain ⟨i0, hi, hz0, hz1, hz2⟩ := info_parts Tryz.info5
  have HL : Hid ((zL l).length = n) := by rw [zL_length]; exact hn
  have HN : Hid (l.length = n) := hn
  have HO : Hid (Octets (zL l)) := oct_zL l
  have HH : Hid (Has w a (zL l)) := hB
  have HQ : Hid (a = none → cap = 0) := hbare
  clear hn hB hbare
  go_enter Tryz.func4, Tryz.ntmps4
  go_wp2_with (first
    | (at_builtin; refine wpList_append_buf _ rfl (.tmp 4) (.tmp 5) 22 rfl w.heap.size i0 Tryz.underlying22 hi hz0 hz1 hz2 (.slice none 0 0) [] rfl (Buf.nil _ _) a n cap (zL l) rfl HL.out HQ.out HH.out HO.out (by simp; omega) (Nat.le_refl _) ?_; intro v1 w1 hb1 hg1 _; have B1 : Hid (Below w.heap.size w w1) := (Below.refl _ _).grown hg1 (Nat.le_refl _) (fun k h => by cases h); have H1 : Hid (Buf (w1.alloc (.cells #[.int .u8 201, .int .u8 202] 5 (0, 0))) w.heap.size v1 (zL l)) := hb1.keep (fun k hk => Below.heap_alloc _ _ k (hb1.low hk).2); clear hb1 hg1)
    | (at_builtin; refine wpList_append_buf _ rfl (.tmp 6) (.tmp 7) 22 rfl w.heap.size i0 Tryz.underlying22 hi hz0 hz1 hz2 v1 (zL l) rfl H1.out (some ⟨w1.heap.size, 0, none⟩) 2 2 [201, 202] rfl rfl (fun h => by cases h) (Has.of_block (zs := [201, 202]) (Go.heap_alloc_new w1 _)) oct_marks (by rw [HL.out]; omega) (by have := B1.out.size; simp; omega) ?_; intro v2 w2 hb2 hg2 _; obtain ⟨g, off, cp, hv2, HX, k1, k2, B2⟩ := fin9 HN.out B1 H1 hb2 hg2; subst hv2; clear hb2 hg2 H1 B1)
    )
  go_ret
  exact ⟨g, off, cp, rfl, HX.out, B2.out⟩
set_option maxHeartbeats 4000000 in
theorem kept9 (W : World) (base g off n cp : Nat) (a : Option Addr) (cap : Nat) (l : List UInt8) (h : Len9 W base g off n cp l) (hH : Has W a (zL l)) (hl : n ≤ 140737488351232) :
    Calls Tryz.prog 9 #[.slice (some ⟨g, off, none⟩) n cp, .slice a n cap] W fun e w' => e = .returned (.bool true) ∧ w' = W := by
  obtain ⟨_, _, hc, hc2, cur, hg, h3, cells⟩ := h.parts
  have hz : (zL l).length = n := by rw [zL_length]; exact h.len
  have m1 : W.cell? ⟨g, off + n, none⟩ = some (.int .u8 201) := by rw [cells n (by omega)]; simp [List.getD, ← hz]
  have m2 : W.cell? ⟨g, off + (n + 1), none⟩ = some (.int .u8 202) := by rw [cells (n + 1) (by omega)]; simp [List.getD, ← hz]
  have s1 := str_has W (some ⟨g, off, none⟩) n cp l h.len h.has
  have s2 := str_has W a n cap l h.len hH
  obtain ⟨S, hS⟩ : ∃ S : ByteArray, (⟨l.toArray⟩ : ByteArray) = S := ⟨_, rfl⟩
  rw [hS] at s1 s2
  unfold maxLen at hc2
  have n0 : (0 : Int) ≤ n := by omega
  have n2 : (n : Int) + 2 ≤ cp := by omega
  clear h cells hH hS hz hg h3
  go_enter Tryz.func9, Tryz.ntmps9
  go_wp2
  go_ret
  exact ⟨rfl, rfl⟩
end Go.Proofs.YtmmnpnhffgpchaaGreatDoor.Ln

/-
  TreeParses: the walk.
-/
namespace Go.Proofs.YtmmnpnhffgpchaaGreatDoor
open Go.RowKit
set_option linter.unusedVariables false
set_option linter.unusedSimpArgs false
set_option maxRecDepth 100000
theorem Ln.Len9.setI {w : World} {base g off n cp i : Nat} {l : List UInt8} (h : Ln.Len9 w base g off n cp l) (hi : i < n) {z : Int} (h0 : 0 ≤ z) (h1 : z ≤ 255) : Ln.Len9 (w.setCell ⟨g, off + i, none⟩ (.int .u8 z)) base g off n cp (l.set i (UInt8.ofNat z.toNat)) := by
  have := h.set hi (UInt8.ofNat z.toNat)
  have e : ((UInt8.ofNat z.toNat).toNat : Int) = z := by
    rw [UInt8.toNat_ofNat']
    omega
  rwa [e] at this
set_option maxHeartbeats 16000000 in
theorem parses_any (w : World) (a : Option Addr) (n cap : Nat) (l : List UInt8) (hn : l.length = n) (hB : Ln.Has w a (Ln.zL l)) (hbare : a = none → cap = 0) (hl : n ≤ 140737488351232) (hm : Ln.HasM w) :
    Calls Tryz.prog 3 #[.slice a n cap] w fun e w' => e = .returned (.bool true) ∧ Below w.heap.size w w' := by
  have hL := Ln.lent4 w a n cap l hn hB hbare hl
  have hw0 := hm.lt
  have HM := hideL hm
  clear hn hB hbare hm
  go_enter Tryz.func3, Tryz.ntmps3
  go_wp2_with fail
  refine hL.mono ?_
  clear hL
  rintro e w1 ⟨g, off, cp, rfl, hlen, hb1⟩
  have HLE := hideL hlen
  have HB1 := hideL hb1
  clear hlen hb1
  go_wp2_with fail
  go_loopw [4] (fun t wr => ∃ (k : Nat) (lt : List UInt8), t = .int .i64 k ∧ k ≤ 2 ∧ Hid (Ln.Len9 wr w.heap.size g off n cp lt) ∧ Hid (Below w.heap.size w wr)) (fun t _ => 2 - (intOf t).toNat)
  case atStart => exact ⟨0, l, rfl, by omega, HLE, HB1⟩
  case round =>
    clear HLE HB1
    obtain ⟨k, lt, rfl, hk, HLE, HBR⟩ := hrel
    have k0 : (0 : Int) ≤ k := by omega
    by_cases h3 : k < 2
    · have h3' : (k : Int) < 2 := by omega
      obtain ⟨hbg, hglt, hcn, hcm, -⟩ := HLE.out.parts
      have HGL : Hid (g < wr.heap.size) := hglt
      have HBG : Hid (w.heap.size ≤ g) := hbg
      have hcn2 : n ≤ cp := by omega
      obtain ⟨ts, d, ln, er, hP⟩ : ∃ ts d ln er, parM lt = (ts, d, ln, er) := ⟨_, _, _, _, rfl⟩
      have hts := parM_len hP
      obtain ⟨T, hT⟩ : ∃ T, ts.length = T := ⟨_, rfl⟩
      rw [hT] at hts
      have HT := hideL hT
      have HP := hideL hP
      have hL := Ln.lent4 wr (some ⟨g, off, none⟩) n cp lt HLE.out.len HLE.out.has (fun h => by cases h) hl
      clear hP hT hglt hbg
      go_wp2_with fail
      refine hL.mono ?_
      clear hL
      rintro e w2 ⟨g2, off2, cp2, rfl, hlen2, hb2⟩
      have hp2 := hlen2.parts
      have hc2 : n ≤ cp2 := by omega
      have HG2 : Hid (g2 < w2.heap.size) := hp2.2.1
      have HL2 := hideL hlen2
      have HLg := hideL (HLE.out.keep (hb2.block g HGL.out))
      have HB2 := hideL (HBR.out.trans (hb2.mono HBR.out.size))
      have HS2 : Hid (wr.heap.size ≤ w2.heap.size) := hb2.size
      clear hlen2 hb2 hp2
      have hPa := parse_any w2 (some ⟨g, off, none⟩) n cp lt HLg.out.len HLg.out.has hl (HM.out.below HB2.out hw0) ts d ln er HP.out
      rw [HT.out] at hPa
      go_wp2_with fail
      refine hPa.mono ?_
      clear hPa
      rintro e w3 ⟨ta, tc, vs, rfl, hot, hb3⟩
      have HOT := hideL hot
      have HB3 := hideL hb3
      clear hot hb3
      go_wp2_with fail
      have hba : Below w3.heap.size w3 (w3.alloc (Obj.cells #[.int .i64 d, .int .i64 ln, .int .i64 er] 27)) := (Below.refl _ w3).alloc (Nat.le_refl _) _
      have hn28 : (w3.alloc (Obj.cells #[.int .i64 d, .int .i64 ln, .int .i64 er] 27)).heap[w3.heap.size]? = some (.cells #[.int .i64 d, .int .i64 ln, .int .i64 er] 27 (0, 0)) := Go.heap_alloc_new _ _
      generalize (w3.alloc (Obj.cells #[.int .i64 d, .int .i64 ln, .int .i64 er] 27)) = W3 at *
      have hb23 : Below w2.heap.size w2 W3 := HB3.out.trans (hba.mono HB3.out.size)
      have HOT3 := hideL (HOT.out.below hba)
      have HB23 := hideL hb23
      have HN28 := hideL hn28
      have HL3 := hideL (HL2.out.keep (hb23.block g2 HG2.out))
      generalize w3.heap.size = p28 at *
      clear hba hn28 hb23 HOT HB3
      have hRp := rparse_any W3 (some ⟨g2, off2, none⟩) n cp2 lt HL3.out.len HL3.out.has hl hc2 ts d ln er HP.out
      rw [HT.out] at hRp
      refine hRp.mono ?_
      clear hRp
      rintro e w4 ⟨ua, uc, us, rfl, hou, hb4⟩
      have HOU := hideL hou
      have HB4 := hideL hb4
      clear hou hb4
      go_wp2_with fail
      have hba : Below w4.heap.size w4 (w4.alloc (Obj.cells #[.int .i64 d, .int .i64 ln, .int .i64 er] 31)) := (Below.refl _ w4).alloc (Nat.le_refl _) _
      have hn32 : (w4.alloc (Obj.cells #[.int .i64 d, .int .i64 ln, .int .i64 er] 31)).heap[w4.heap.size]? = some (.cells #[.int .i64 d, .int .i64 ln, .int .i64 er] 31 (0, 0)) := Go.heap_alloc_new _ _
      generalize (w4.alloc (Obj.cells #[.int .i64 d, .int .i64 ln, .int .i64 er] 31)) = W4 at *
      have hb34 : Below W3.heap.size W3 W4 := HB4.out.trans (hba.mono HB4.out.size)
      have HOT4 := hideL (HOT3.out.below hb34)
      have HOU4 := hideL (HOU.out.below hba)
      have HB24 := hideL (HB23.out.trans (hb34.mono HB23.out.size))
      have HN32 := hideL hn32
      have HN284 := hideL ((hb34.block p28 (Array.getElem?_eq_some_iff.1 HN28.out).1).trans HN28.out)
      generalize w4.heap.size = p32 at *
      clear hba hn32 hb34 HOT3 HOU HB4 HN28
      refine (trees_same W4 w2.heap.size W3.heap.size ta ua T tc uc ts vs us HT.out HOT4.out HOU4.out (by omega)).mono ?_
      rintro e w5 ⟨rfl, q5, hw5⟩
      have hb45 : Below W4.heap.size W4 w5 := by rw [hw5]; exact below_drewN (Below.refl _ _) _
      clear hw5
      have HB25 := hideL (HB24.out.trans (hb45.mono HB24.out.size))
      have HOT5 := hideL (HOT4.out.below hb45)
      have HOU5 := hideL (HOU4.out.below hb45)
      have h28 := (hb45.block p28 (Array.getElem?_eq_some_iff.1 HN284.out).1).trans HN284.out
      have h32 := (hb45.block p32 (Array.getElem?_eq_some_iff.1 HN32.out).1).trans HN32.out
      have x0 : w5.cell? ⟨p28, 0, none⟩ = some (.int .i64 d) := by rw [cell_block h28]; rfl
      have x1 : w5.cell? ⟨p28, 1, none⟩ = some (.int .i64 ln) := by rw [cell_block h28]; rfl
      have x2' : w5.cell? ⟨p28, 2, none⟩ = some (.int .i64 er) := by rw [cell_block h28]; rfl
      have y0 : w5.cell? ⟨p32, 0, none⟩ = some (.int .i64 d) := by rw [cell_block h32]; rfl
      have y1 : w5.cell? ⟨p32, 1, none⟩ = some (.int .i64 ln) := by rw [cell_block h32]; rfl
      have y2 : w5.cell? ⟨p32, 2, none⟩ = some (.int .i64 er) := by rw [cell_block h32]; rfl
      clear hb45 HOT4 HOU4 HN284 HN32 HB24 h28 h32
      go_wp2_with fail
      refine (fault_same w5 d ln er).mono ?_
      rintro e w6 ⟨rfl, hb6⟩
      have HB26 := hideL (HB25.out.trans (hb6.mono HB25.out.size))
      have HOT6 := hideL (HOT5.out.below hb6)
      have HOU6 := hideL (HOU5.out.below hb6)
      clear hb6 HB25 HOT5 HOU5 x0 x1 x2' y0 y1 y2
      have hgw2 : g < w2.heap.size := Nat.lt_of_lt_of_le HGL.out HS2.out
      have HLg6 := hideL (HLg.out.keep (HB26.out.block g hgw2))
      have HL26 := hideL (HL2.out.keep (HB26.out.block g2 HG2.out))
      have HGW : Hid (g < w2.heap.size) := hgw2
      clear hgw2
      go_wp2_with fail
      refine (Ln.kept9 w6 w.heap.size g off n cp (some ⟨g2, off2, none⟩) cp2 lt HLg6.out HL26.out.has hl).mono ?_
      rintro e w7 ⟨rfl, hw7⟩
      have hw7 := hw7.symm
      subst hw7
      have HW3s : Hid (w2.heap.size ≤ W3.heap.size) := HB23.out.size
      go_wp2_with fail
      go_loopw [10] (fun t wq => ∃ (i : Nat) (li : List UInt8), t = .int .i64 i ∧ i ≤ n ∧ Hid (Ln.Len9 wq w.heap.size g off n cp li) ∧ Hid (Ln.But g w6 wq)) (fun t _ => n - (intOf t).toNat)
      case atStart => exact ⟨0, lt, rfl, by omega, HLg6, ⟨rfl, rfl, rfl, Nat.le_refl _, fun _ _ _ => rfl⟩⟩
      case round =>
        obtain ⟨i, li, rfl, hi, HLI, HBT⟩ := hrel
        have i0 : (0 : Int) ≤ i := by omega
        by_cases h4 : i < n
        · have h4' : (i : Int) < n := by omega
          obtain ⟨c, hc⟩ : ∃ c, li[i]? = some c := ⟨li[i]'(by rw [HLI.out.len]; exact h4), List.getElem?_eq_getElem _⟩
          obtain ⟨zc, zf⟩ := HLI.out.at_ hc
          have hlo : (0 : Int) ≤ (c.toNat : Int) := by omega
          have hhi : (c.toNat : Int) ≤ 255 := by have := c.toNat_lt; omega
          generalize (c.toNat : Int) = z at *
          clear hc
          by_cases h97 : 97 ≤ z
          · by_cases h122 : z ≤ 122
            · have HLS := hideL (HLI.out.setI h4 (z := 97 + (z - 97 + 1) % 26) (by omega) (by omega))
              have HBS : Hid (Ln.But g w6 (wr.setCell ⟨g, off + i, none⟩ (.int .u8 (97 + (z - 97 + 1) % 26)))) := HBT.out.trans (Ln.But.set _ _)
              go_wp2_with fail
              exact ⟨⟨i + 1, _, by go_num, by omega, HLS, HBS⟩, by simp [intOf]; omega⟩
            · go_wp2_with fail
              go_roundw
              case rel => exact ⟨i + 1, li, by go_num, by omega, HLI, HBT⟩
              case measure => simp [intOf]; omega
          · go_wp2_with fail
            go_roundw
            case rel => exact ⟨i + 1, li, by go_num, by omega, HLI, HBT⟩
            case measure => simp [intOf]; omega
        · have h4' : ¬ (i : Int) < n := by omega
          have hbut := HBT.out
          have HOT7 := hideL (HOT6.out.keep (w' := wr) fun k h1 h2 => hbut.block k h2 (by have := HGW.out; omega))
          have HOU7 := hideL (HOU6.out.keep (w' := wr) fun k h1 h2 => hbut.block k h2 (by have := HGW.out; have := HW3s.out; omega))
          have HBF : Hid (Below w.heap.size w wr) := (HB2.out.trans (HB26.out.mono HB2.out.size)).trans (hbut.below (Nat.le_trans HB2.out.size HB26.out.size) HBG.out)
          clear hbut
          go_wp2_with fail
          refine (trees_same wr w2.heap.size W3.heap.size ta ua T tc uc ts vs us HT.out HOT7.out HOU7.out (by omega)).mono ?_
          rintro e w8 ⟨rfl, q8, hw8⟩
          have hw8 := hw8.symm
          subst hw8
          have HLF := hideL (HLI.out.keep (w' := wr.drewN q8) rfl)
          have HBF2 : Hid (Below w.heap.size w (wr.drewN q8)) := below_drewN HBF.out _
          go_wp2_with fail
          exact ⟨⟨k + 1, li, by go_num, by omega, HLF, HBF2⟩, by simp [intOf]; omega⟩
    · have h3' : ¬ (k : Int) < 2 := by omega
      go_wp2
      go_ret
      exact ⟨rfl, HBR.out⟩
end Go.Proofs.YtmmnpnhffgpchaaGreatDoor

/-
  TreeParses holds of the program: any text is read as just the trees that the document says, or refused at the document, the line and with the error that it says; the text stays as it was, and so it is again when the same memory holds another text. Condition: the listed package variables start as the text lays them (the card ties them to the text).
-/
namespace Go.Proofs.YtmmnpnhffgpchaaGreatDoor
open Go.ChangeShapes Go.WideShapes Go.ChangeAt Go.RowKit Go.ChangeMaps Go.Proofs.YtmmnpnhffgpchaaGreatDoor.Ln
set_option linter.unusedVariables false
set_option linter.unusedSimpArgs false

theorem treeParses_reads (os : Os) {H : Type} (enc : TypeId × Value → H) : ∃ places, DataW.whole enc Tryz.prog ((World.laidAll Tryz.prog os Rows.treeParsesRow.laid).forCall (fun _ _ => 0) ⟨#[], #[.slice none 0 0], []⟩).memory Tryz.f3.params.toList Rows.treeParsesSpec.vars false #[Value.slice none 0 0].toList 8 = some ([.nil], [], places) :=
  ⟨[], by kernel_rfl⟩
theorem treeParses_met (os : Os) : laidMetH Tryz.prog Rows.treeParsesRow.laid ((World.laidAll Tryz.prog os Rows.treeParsesRow.laid).forCall (fun _ _ => 0) ⟨#[], #[.slice none 0 0], []⟩).memory := by
  rw [MakeChecks.laidMetH_plain _ _ _ (by kernel_rfl)]
  exact laidMet_laidAll _ (by kernel_rfl) (by kernel_rfl)

set_option maxRecDepth 100000 in
theorem treeParses_lifted (os : Os) (started : os.Started) (H : Type) (enc : TypeId × Value → H) (F : Stop.Interp) :
    ReturnsInHanded {} Tryz.checked os 3 .any ((OpenSpec.ofChange Rows.treeParsesSpec).preRow enc Tryz.prog Tryz.f3 Rows.treeParsesRow.domain false Rows.treeParsesRow.laid) (((OpenSpec.ofChange Rows.treeParsesSpec).at F).post enc Tryz.prog Tryz.f3 false true false false) := by
  obtain ⟨places, hx⟩ := treeParses_reads os enc
  refine returnsInHanded_of_row (C := Tryz.checked) (s := (OpenSpec.ofChange Rows.treeParsesSpec)) own started (by kernel_rfl) Tryz.func3
    (witness_row_at (enc := enc) (C := Tryz.checked) false (World.laidAll Tryz.prog os Rows.treeParsesRow.laid) #[.slice none 0 0] (World.laidAll_os _ _ _) (by kernel_rfl) (by kernel_rfl) (by kernel_rfl)
      (OpenSpec.preRow_of_cond 8 hx (by kernel_rfl) (fun k hk => by cases hk) (by kernel_rfl) (treeParses_met os))) ?_
  intro W base args ds gs before hval0 hW _ hcond hsz0 hL hsh _
  have hm : HasM W := hasM_of hsh
  have hval : ∀ (j : Nat) t v, Tryz.f3.params[j]? = some t → args[j]? = some v → Value.okWide Tryz.prog W .any base t v := hval0
  have hsz : (DataW.weightsEach Tryz.prog (Tryz.f3.params.toList ++ Rows.treeParsesSpec.plain.varTypes Tryz.prog) (ds ++ gs)).all (· ≤ reachBytes) = true := hsz0
  have hW' := hW
  obtain ⟨p, q, hA0, hV, rfl, hfz, hnd⟩ := hW
  have hA : DataW.TrodAll enc Tryz.prog W 0 (fun _ => true) true Tryz.f3.params.toList args.toList ds p := hA0
  rw [Tryz.params3] at hA hval hsz
  obtain ⟨v0, vs0, d0, ds0, p0, q0, hargs, rfl, rfl, h0, r0⟩ := trodAll_cons hA
  obtain ⟨rfl, rfl, rfl⟩ := trodAll_nil r0
  obtain rfl : args = #[v0] := by cases args; simp_all
  obtain ⟨rfl, rfl⟩ := trodVars_none hV
  obtain ⟨a0, len0, cap0, rfl⟩ := okWide_slice Tryz.underlying22 (hval 0 22 v0 rfl rfl)
  have k0 := h0
  have lt0 : ∀ x ∈ p0, x.block < W.heap.size := by obtain ⟨m, hm⟩ := k0; exact DataW.trod_lt m _ _ _ hm
  obtain ⟨l0, n0, h0', bare0, small0⟩ := open_list h0 hsz (j := 0) rfl rfl
  clear hA0 hval0
  refine (parses_any W a0 len0 cap0 l0 n0 h0' bare0 small0 hm).mono fun e W' ⟨he, bel⟩ => ?_
  subst he
  exact ⟨_, rfl, _, _, _, [], _, [], hW', trodAll_mk1 (shut_bool Tryz.underlying4 _), (trodAll_cons_mk (Below.trod laidOut (by kernel_rfl) (of_decide_eq_true (by kernel_rfl)) k0 bel lt0) trodAll_mk0), rfl, bel.frame _, fun h => by cases h⟩

theorem treeParses_row : Rows.TreeParsesSaid :=
  OpenClaim.holds_of_cond 3 Tryz.f3 rfl rfl rfl rfl rfl rfl rfl ⟨rfl, rfl, rfl, rfl, rfl⟩ rfl rfl rfl rfl rfl (by kernel_rfl) Tryz.func3 (by kernel_rfl)
    (of_decide_eq_true (by kernel_rfl)) (by unfold Func.isWrapper; first | (rw [if_pos (by decide +kernel)]; kernel_rfl) | (rw [if_neg (by decide +kernel)]; exact ⟨rfl, rfl⟩))
    (fun os started H enc _ F => by rw [OpenClaim.pre_eq_preRow]; exact treeParses_lifted os started H enc F)

theorem treeParses_holds : Rows.TreeParsesCardSaid :=
  Claim7.holds_tied_plain_at .later [] _ _ _ _
    treeParses_row (fun _ h => by cases h) (by kernel_rfl) (fun _ h => by cases h) treeParses_row_tie rfl ⟨rfl, rfl⟩ (by kernel_rfl) rfl
    (fun f fn hf hfn => by
      obtain rfl : f = 3 := Option.some.inj ((show Tryz.prog.funcNamed Rows.treeParsesRow.func = some 3 by kernel_rfl).symm.trans hf) |>.symm
      obtain rfl : fn = Tryz.f3 := (Option.some.inj (Tryz.func3.symm.trans hfn)).symm
      exact ⟨by kernel_rfl, fun j t ht => by
        rw [Tryz.params3] at ht
        have hm : t ∈ [22] := by simpa using Array.mem_of_getElem? ht
        have hall : ([22].all fun u => !Tryz.prog.wantsStandIn u) = true := by kernel_rfl
        exact (show Tryz.prog.wantsStandIn t = false by simpa using List.all_eq_true.1 hall t hm)⟩)
    (by kernel_rfl)
#print axioms treeParses_holds
end Go.Proofs.YtmmnpnhffgpchaaGreatDoor
