/-
  The contract of the document's own Next.
-/
import Derived.Test.YteeclghhoioapaaDoorKept
import Derived.Deep.QuietTactic
import Derived.BigQuiet
import Derived.Laws.StructEq
namespace Go.Proofs.YteeclghhoioapaaDoor
set_option maxRecDepth 4000
open Go.RowKit
set_option linter.unusedVariables false

set_option maxHeartbeats 400000 in
theorem rnext_short (a : Option Addr) (n cap : Nat) (w : World) (hl : n < 8) :
    Calls Tryd.prog 37 #[.slice a n cap] w fun e w' => e = .returned (.tuple #[.slice none 0 0, .int .i64 0, .int .i64 10]) ∧ w' = w := by
  go_enter Tryd.func37, Tryd.ntmps37
  go_wp2
  go_ret3
  exact ⟨rfl, rfl⟩

theorem has_front {w : World} {a : Option Addr} {zs : List Int} (h : Has w a zs) (k : Nat) (hk : k ≤ zs.length) : Has w a (zs.take k) := by
  rcases h with ⟨rfl, rfl⟩ | ⟨x, rfl, hB⟩
  · exact .inl ⟨rfl, by simp⟩
  · refine .inr ⟨x, rfl, fun j hj => ?_⟩
    have hj' : j < k := by simp at hj; omega
    rw [hB j (by omega)]; simp [List.getD, hj']
theorem has_mid {w : World} {b off : Nat} {zs : List Int} (h : Has w (some ⟨b, off, none⟩) zs) (k m : Nat) (hk : k + m ≤ zs.length) : Has w (some ⟨b, off + k, none⟩) ((zs.drop k).take m) := by
  rcases h with ⟨h, _⟩ | ⟨x, hx, hB⟩
  · cases h
  · cases hx
    refine .inr ⟨_, rfl, fun j hj => ?_⟩
    have hj' : j < m := by simp at hj; omega
    have := hB (k + j) (by omega)
    rw [Go.WideShapes.add_plain] at this ⊢
    rw [Nat.add_assoc, this]; simp [List.getD, hj']
theorem has_drewN {w : World} {a : Option Addr} {zs : List Int} (h : Has w a zs) (k : Nat) : Has (w.drewN k) a zs := h
theorem Has.some {w : World} {x : Addr} {zs : List Int} (h : Has w (some x) zs) : ∀ j, j < zs.length → w.cell? (x.add j) = some (.int .u8 (zs.getD j 0)) := by
  rcases h with ⟨h, _⟩ | ⟨y, hy, hB⟩
  · cases h
  · cases hy; exact hB
theorem four_of (a b c d : Int) (ha : 0 ≤ a ∧ a ≤ 255) (hb : 0 ≤ b ∧ b ≤ 255) (hc : 0 ≤ c ∧ c ≤ 255) (hd : 0 ≤ d ∧ d ≤ 255) :
    (a * 16777216 + b * 65536 + c * 256 + d) / 16777216 = a ∧ (a * 16777216 + b * 65536 + c * 256 + d) / 65536 % 256 = b ∧ (a * 16777216 + b * 65536 + c * 256 + d) / 256 % 256 = c ∧ (a * 16777216 + b * 65536 + c * 256 + d) % 256 = d := by omega
/-- The bytes begin with a payload's frame just where a record is there. -/
theorem rec_iff (zs : List Int) (N : Nat) (hz : Octets zs) (h8 : 8 ≤ zs.length) (hN : (N : Int) = zs.getD 0 0 * 16777216 + zs.getD 1 0 * 65536 + zs.getD 2 0 * 256 + zs.getD 3 0) (h1 : N ≤ 131072) (h2 : N + 8 ≤ zs.length) :
    frame ((zs.drop 8).take N) = zs.take (8 + N) ↔ IsRec zs N := by
  have f4 := four_of _ _ _ _ (hz 0) (hz 1) (hz 2) (hz 3)
  rw [← hN] at f4
  match zs, h8 with
  | a :: b :: c :: d :: p :: q :: r :: s :: rest, _ =>
    simp only [List.getD_cons_zero, List.getD_cons_succ] at f4 hN
    obtain ⟨fa, fb, fc, fd⟩ := f4
    have hl : (rest.take N).length = N := by simp at h2 ⊢; omega
    have hsum : sumOf (rest.take N) = check a b c d (rest.take N) := by
      unfold sumOf; rw [hl, fa, fb, fc, fd]
    have hfr : frame (rest.take N) = [a, b, c, d] ++ (four (check a b c d (rest.take N)) ++ rest.take N) := by
      unfold frame; rw [hl, hsum]; simp only [four, fa, fb, fc, fd]
    have ht : (a :: b :: c :: d :: p :: q :: r :: s :: rest).take (8 + N) = [a, b, c, d] ++ ([p, q, r, s] ++ rest.take N) := by
      rw [Nat.add_comm]; simp
    have hdr : (a :: b :: c :: d :: p :: q :: r :: s :: rest).drop 8 = rest := rfl
    rw [hdr, hfr, ht]
    constructor
    · intro h
      have h := List.append_cancel_left h
      have h := List.append_cancel_right h
      exact ⟨by simp, by simpa using hN, h1, by rw [hdr]; simp at h2; omega, by simpa [hdr] using h⟩
    · intro h
      have := h.2.2.2.2
      rw [hdr] at this
      simp only [List.getD_cons_zero, List.getD_cons_succ] at this
      rw [this]
/-- What the document's own Next leaves. -/
def RNexts (w : World) (zs : List Int) (e : Ending) (w' : World) : Prop :=
  Below w.heap.size w w' ∧ (((∀ N, ¬ IsRec zs N) ∧ e = .returned (.tuple #[.slice none 0 0, .int .i64 0, .int .i64 10])) ∨
    ∃ (N : Nat) (a : Option Addr) (cp : Nat), IsRec zs N ∧ e = .returned (.tuple #[.slice a N cp, .int .i64 (8 + (N : Int)), .int .i64 0]) ∧ Has w' a ((zs.drop 8).take N) ∧ w'.ownsRow w.heap.size 5 1 (.slice a N cp) N (vals ((zs.drop 8).take N)))
theorem rn_end {w w2 w3 : World} {zs P : List Int} {M c : Int} {v3 : Value} {m : Nat} (HREC : Hid (IsRec zs M.toNat)) (HP : Hid ((zs.drop 8).take M.toNat = P)) (hown : w3.ownsRow w2.heap.size 5 1 v3 (0 + m) (vals [] ++ vals P)) (hm : m = M.toNat) (hc : c = 8 + (M.toNat : Int)) (hb : w.heap.size ≤ w2.heap.size) :
    ∃ (N : Nat) (a : Option Addr) (cp : Nat), IsRec zs N ∧ Ending.returned (.tuple #[v3, .int .i64 c, .int .i64 0]) = .returned (.tuple #[.slice a N cp, .int .i64 (8 + (N : Int)), .int .i64 0]) ∧ Has w3 a ((zs.drop 8).take N) ∧ w3.ownsRow w.heap.size 5 1 (.slice a N cp) N (vals ((zs.drop 8).take N)) := by
  subst hm; subst hc
  rw [Nat.zero_add] at hown
  have hown' : w3.ownsRow w2.heap.size 5 1 v3 M.toNat (vals P) := hown
  rcases hown'.2 with ⟨rfl, h0⟩ | ⟨g, cap, cur, rfl, hbg, rest⟩
  · refine ⟨M.toNat, none, 0, HREC.out, by rw [h0], .inl ⟨rfl, ?_⟩, ?_⟩
    · rw [h0]; simp
    · rw [HP.out]; exact ⟨hown'.1, .inl ⟨by rw [h0], h0⟩⟩
  · refine ⟨M.toNat, some ⟨g, 0, none⟩, cap, HREC.out, rfl, by rw [HP.out]; exact own_has hown', ?_⟩
    rw [HP.out]; exact ⟨hown'.1, .inr ⟨g, cap, cur, rfl, Nat.le_trans hb hbg, rest⟩⟩
theorem str_ne {X Y : ByteArray} (h : ¬ X = Y) : (X.toList == Y.toList) = false := by
  rw [← beq_toListBytes]
  cases hb : X == Y
  · rfl
  · have hd : (X.data == Y.data) = true := hb
    exact absurd (ByteArray.ext (eq_of_beq hd)) h
theorem ret_u64 {a b : Int} (h : a = b) : Value.int .u64 a = .int .u64 b := by rw [h]

set_option maxHeartbeats 1000000 in
theorem rnext_long (b off n cap : Nat) (zs : List Int) (w : World) (hn : zs.length = n) (h8 : 8 ≤ n) (hcap : n ≤ cap) (hm : cap ≤ maxLen) (hs : n ≤ 140737488355328)
    (hb : b < w.heap.size) (hB : Has w (some ⟨b, off, none⟩) zs) (hz : Octets zs) :
    Calls Tryd.prog 37 #[.slice (some ⟨b, off, none⟩) n cap] w fun e w' => RNexts w zs e w' := by
  have e0 : w.cell? ⟨b, off, none⟩ = some (.int .u8 (zs.getD 0 0)) := by have := hB.some 0 (by omega); rwa [Go.WideShapes.add_plain] at this
  have e1 : w.cell? ⟨b, off + 1, none⟩ = some (.int .u8 (zs.getD 1 0)) := by have := hB.some 1 (by omega); rwa [Go.WideShapes.add_plain] at this
  have e2 : w.cell? ⟨b, off + 2, none⟩ = some (.int .u8 (zs.getD 2 0)) := by have := hB.some 2 (by omega); rwa [Go.WideShapes.add_plain] at this
  have e3 : w.cell? ⟨b, off + 3, none⟩ = some (.int .u8 (zs.getD 3 0)) := by have := hB.some 3 (by omega); rwa [Go.WideShapes.add_plain] at this
  have o0 := hz 0
  have o1 := hz 1
  have o2 := hz 2
  have o3 := hz 3
  have HREC := fun N => rec_iff zs N hz (by omega)
  have HNUM : Hid (∀ N, IsRec zs N → (N : Int) = zs.getD 0 0 * 16777216 + zs.getD 1 0 * 65536 + zs.getD 2 0 * 256 + zs.getD 3 0 ∧ N ≤ 131072 ∧ N + 8 ≤ zs.length) := fun N h => ⟨h.2.1, h.2.2.1, by have := h.2.2.2.1; have := h.1; simp at *; omega⟩
  obtain ⟨s0, hs0⟩ : ∃ s, zs.getD 0 0 = s := ⟨_, rfl⟩
  obtain ⟨s1, hs1⟩ : ∃ s, zs.getD 1 0 = s := ⟨_, rfl⟩
  obtain ⟨s2, hs2⟩ : ∃ s, zs.getD 2 0 = s := ⟨_, rfl⟩
  obtain ⟨s3, hs3⟩ : ∃ s, zs.getD 3 0 = s := ⟨_, rfl⟩
  rw [hs0] at e0 o0
  rw [hs1] at e1 o1
  rw [hs2] at e2 o2
  rw [hs3] at e3 o3
  rw [hs0, hs1, hs2, hs3] at HNUM
  rw [hs0, hs1, hs2, hs3] at HREC
  have HR : Hid (∀ N : Nat, (N : Int) = s0 * 16777216 + s1 * 65536 + s2 * 256 + s3 → N ≤ 131072 → N + 8 ≤ zs.length → (frame ((zs.drop 8).take N) = zs.take (8 + N) ↔ IsRec zs N)) := HREC
  clear hs0 hs1 hs2 hs3 HREC
  obtain ⟨i5, hi, hz0, hz1, hz2⟩ := info_parts Tryd.info5
  unfold maxLen at hm
  have hn8 : (8 : Int) ≤ n := by omega
  have hn8' : ¬ (n : Int) < 8 := by omega
  have i0 : (0 : Int) < n := by omega
  have i1 : (1 : Int) < n := by omega
  have i2 : (2 : Int) < n := by omega
  have i3 : (3 : Int) < n := by omega
  obtain ⟨q0, q0'⟩ := o0
  obtain ⟨q1, q1'⟩ := o1
  obtain ⟨q2, q2'⟩ := o2
  obtain ⟨q3, q3'⟩ := o3
  obtain ⟨M, hM⟩ : ∃ M, s0 * 16777216 + s1 * 65536 + s2 * 256 + s3 = M := ⟨_, rfl⟩
  have M0 : 0 ≤ M := by omega
  have M1 : M < 4294967296 := by omega
  have HM : Hid (s0 * 16777216 + s1 * 65536 + s2 * 256 + s3 = M) := hM
  clear hM
  go_enter Tryd.func37, Tryd.ntmps37
  go_upto_region 3 with fail
  go_cut [5] (fun t5 wx => t5 = .int .u64 M ∧ ∃ nq, wx = w.drewN nq)
  case first =>
    go_quiet (fail)
    go_wp2_with fail
    go_meet
    case rel => exact ⟨ret_u64 HM.out, _, rfl⟩
  case rest =>
    obtain ⟨rfl, nq, rfl⟩ := hcut
    clear e0 e1 e2 e3 q0 q0' q1 q1' q2 q2' q3 q3' i0 i1 i2 i3
    by_cases hA : 131072 < M
    · go_wp2
      go_ret3
      exact ⟨below_drewN (Below.refl _ w) nq, .inl ⟨fun N h => by have := HNUM.out N h; have := HM.out; omega, rfl⟩⟩
    by_cases hA2 : (n : Int) - 8 < M
    · go_wp2
      go_ret3
      exact ⟨below_drewN (Below.refl _ w) nq, .inl ⟨fun N h => by have := HNUM.out N h; have := HM.out; omega, rfl⟩⟩
    by_cases hc8 : cap = 8
    · have hM0 : M = 0 := by omega
      have hL0 : zs.length = 8 := by omega
      subst hc8
      have HI : Hid (frame [] = zs ↔ IsRec zs 0) := by
        have := HR.out 0 (by have := HM.out; omega) (by omega) (by omega)
        rwa [List.take_zero, List.take_of_length_le (by omega)] at this
      have HU : Hid (∀ N, IsRec zs N → N = 0) := fun N h => by have := HNUM.out N h; have := HM.out; omega
      clear HR HNUM HM
      subst hM0
      have hF : Hid (Has w (some ⟨b, off, none⟩) zs) := hB
      have hn8e : n = 8 := by omega
      subst hn8e
      clear hB hA hA2
      go_wp2_with fail
      refine (rframe_some ⟨b, off, none⟩ 0 0 [] _ rfl (fun j hj => by simp at hj) Octets.nil (by omega)).mono ?_
      rintro e w2 ⟨gf, cf, rfl, hown2, hb2⟩
      have B2 : Hid (Below w.heap.size w w2) := (below_drewN (Below.refl _ w) nq).trans hb2
      have s1 : ∀ k, (convert 24 9 (.slice (some ⟨gf, 0, none⟩) 8 cf)).run Tryd.prog (w2.drewN k) = .ok (.string (bstr (frame []))) (w2.drewN k) := fun k =>
        str_of _ _ _ _ _ (by rw [frame_length]; rfl) (has_drewN (own_has hown2) k)
      have s2 : ∀ k, (convert 24 9 (.slice (some ⟨b, off, none⟩) 8 8)).run Tryd.prog (w2.drewN k) = .ok (.string (bstr zs)) (w2.drewN k) := fun k =>
        str_of _ _ _ _ _ (by omega) (has_drewN (hF.out.of_below B2.out) k)
      obtain ⟨X, hX⟩ : ∃ X, bstr (frame []) = X := ⟨_, rfl⟩
      obtain ⟨Y, hY⟩ : ∃ Y, bstr zs = Y := ⟨_, rfl⟩
      rw [hX] at s1
      rw [hY] at s2
      have HXY : Hid (X = Y ↔ IsRec zs 0) := by
        show X = Y ↔ IsRec zs 0
        rw [← hX, ← hY, ← HI.out]
        exact ⟨fun h => bstr_inj _ _ (frame_octets [] Octets.nil (by decide)) hz h, fun h => by rw [h]⟩
      clear hX hY hb2 hown2
      by_cases hXY : X = Y
      · have HREC : Hid (IsRec zs ((0 : Int)).toNat) := HXY.out.1 hXY
        subst hXY
        clear HXY
        have N2 : Hid (∀ j u, (vals [])[j]? = some u → ((w2.alloc (.cells #[] 5))).cell? ((⟨b, off, none⟩ : Addr).add j) = some u) := fun j u h => by simp [vals] at h
        go_wp2_with fail
        go_quiet (fail)
        go_wp2_with (at_builtin; refine wpList_append_own _ rfl (.tmp 61) (.tmp 64) 24 rfl w2.heap.size 5 i5 (.int .u8 0) 1 1 Tryd.underlying24 hi hz0 hz1 hz2 rfl (by decide) (.slice (some ⟨w2.heap.size, 0, none⟩) 0 0) 0 (vals []) rfl (World.ownsRow_lit _ #[] 0 (Nat.le_refl _) (by decide) rfl) ⟨b, off, none⟩ 0 0 (vals []) rfl rfl N2.out (vals_one _) (by decide) (by decide) (by simp) ?_; intro v3 w3 hown3 hgrow3 _)
        go_ret3
        have b3 : Below w.heap.size w w3 := ((below_drewN B2.out _).alloc B2.out.size _).grown hgrow3 (by have := B2.out.size; simp; omega) (fun k h => by simp [Value.ownBlock] at h; have := B2.out.size; omega)
        exact ⟨b3, .inr (rn_end (M := 0) HREC (show (zs.drop 8).take (0 : Int).toNat = [] by simp) hown3 rfl rfl B2.out.size)⟩
      · have hne : (X.toList == Y.toList) = false := str_ne hXY
        go_wp2_with fail
        go_quiet (fail)
        go_wp2
        go_ret3
        exact ⟨below_drewN B2.out _, .inl ⟨fun N h => hXY (HXY.out.2 (by rw [← HU.out N h]; exact h)), rfl⟩⟩
    · have hc9 : 8 < cap := by omega
      have hA3 : M + 8 ≤ n := by omega
      have hA4 : M + 8 ≤ cap := by omega
      have HL : Hid (((zs.drop 8).take M.toNat).length = M.toNat) := by
        show ((zs.drop 8).take M.toNat).length = M.toNat
        rw [List.length_take, List.length_drop]; omega
      have HI : Hid (frame ((zs.drop 8).take M.toNat) = zs.take (8 + M).toNat ↔ IsRec zs M.toNat) := by
        have := HR.out M.toNat (by have := HM.out; omega) (by omega) (by omega)
        rwa [show 8 + M.toNat = (8 + M).toNat by omega] at this
      have HU : Hid (∀ N, IsRec zs N → N = M.toNat) := fun N h => by have := HNUM.out N h; have := HM.out; omega
      clear HR HNUM
      have hP : Hid (Has w (some (⟨b, off + 8, none⟩ : Addr)) ((zs.drop 8).take M.toNat)) := has_mid hB 8 M.toNat (by omega)
      have hF : Hid (Has w (some ⟨b, off, none⟩) (zs.take (8 + M).toNat)) := has_front hB _ (by omega)
      obtain ⟨P, hPe⟩ : ∃ P, (zs.drop 8).take M.toNat = P := ⟨_, rfl⟩
      have OP : Octets P := by rw [← hPe]; exact (hz.drop 8).take _
      rw [hPe] at HL hP HI
      have HP : Hid ((zs.drop 8).take M.toNat = P) := hPe
      clear hPe hB
      go_wp2_with fail
      rw [show (8 + M).toNat - 8 = M.toNat by omega]
      refine (rframe_some (⟨b, off + 8, none⟩ : Addr) M.toNat (cap - 8) P _ HL.out (has_drewN hP.out nq).some OP (by omega)).mono ?_
      rintro e w2 ⟨gf, cf, rfl, hown2, hb2⟩
      have B2 : Hid (Below w.heap.size w w2) := (below_drewN (Below.refl _ w) nq).trans hb2
      have s1 : ∀ k, (convert 24 9 (.slice (some ⟨gf, 0, none⟩) (8 + M.toNat) cf)).run Tryd.prog (w2.drewN k) = .ok (.string (bstr (frame P))) (w2.drewN k) := fun k =>
        str_of _ _ _ _ _ (by rw [frame_length, HL.out]) (has_drewN (own_has hown2) k)
      have s2 : ∀ k, (convert 24 9 (.slice (some ⟨b, off, none⟩) (8 + M).toNat cap)).run Tryd.prog (w2.drewN k) = .ok (.string (bstr (zs.take (8 + M).toNat))) (w2.drewN k) := fun k =>
        str_of _ _ _ _ _ (by rw [List.length_take]; omega) (has_drewN (hF.out.of_below B2.out) k)
      obtain ⟨X, hX⟩ : ∃ X, bstr (frame P) = X := ⟨_, rfl⟩
      obtain ⟨Y, hY⟩ : ∃ Y, bstr (zs.take (8 + M).toNat) = Y := ⟨_, rfl⟩
      rw [hX] at s1
      rw [hY] at s2
      have HXY : Hid (X = Y ↔ IsRec zs M.toNat) := by
        show X = Y ↔ IsRec zs M.toNat
        rw [← hX, ← hY, ← HI.out]
        exact ⟨fun h => bstr_inj _ _ (frame_octets P OP (by have := HL.out; omega)) (hz.take _) h, fun h => by rw [h]⟩
      clear hX hY hb2 hown2
      by_cases hXY : X = Y
      · have HREC : Hid (IsRec zs M.toNat) := HXY.out.1 hXY
        subst hXY
        clear HXY
        have hl2 : M.toNat = (8 + M).toNat - 8 := by omega
        have N2 : Hid (∀ j u, (vals P)[j]? = some u → ((w2.alloc (.cells #[] 5))).cell? ((⟨b, off + 8, none⟩ : Addr).add j) = some u) := by
          have hb3 : Below w.heap.size w (w2.alloc (.cells #[] 5)) := B2.out.alloc B2.out.size _
          exact has_news hP hb3
        have HL2 : Hid ((vals P).length = ((8 + M).toNat - 8) * 1) := by
          show (vals P).length = _
          rw [vals_length, HL.out]; omega
        clear hl2
        go_wp2_with fail
        go_quiet (fail)
        go_wp2_with (at_builtin; refine wpList_append_own _ rfl (.tmp 61) (.tmp 64) 24 rfl w2.heap.size 5 i5 (.int .u8 0) 1 1 Tryd.underlying24 hi hz0 hz1 hz2 rfl (by decide) (.slice (some ⟨w2.heap.size, 0, none⟩) 0 0) 0 (vals []) rfl (World.ownsRow_lit _ #[] 0 (Nat.le_refl _) (by decide) rfl) (⟨b, off + 8, none⟩ : Addr) ((8 + M).toNat - 8) (cap - 8) (vals P) rfl HL2.out N2.out (vals_one _) (by unfold maxLen; omega) (by omega) (by simp) ?_; intro v3 w3 hown3 hgrow3 _)
        go_ret3
        have b3 : Below w.heap.size w w3 := ((below_drewN B2.out _).alloc B2.out.size _).grown hgrow3 (by have := B2.out.size; simp; omega) (fun k h => by simp [Value.ownBlock] at h; have := B2.out.size; omega)
        exact ⟨b3, .inr (rn_end HREC HP hown3 (by omega) (by omega) B2.out.size)⟩
      · have hne : (X.toList == Y.toList) = false := str_ne hXY
        go_wp2_with fail
        go_quiet (fail)
        go_wp2
        go_ret3
        exact ⟨below_drewN B2.out _, .inl ⟨fun N h => hXY (HXY.out.2 (by rw [← HU.out N h]; exact h)), rfl⟩⟩

theorem rnext_any (a : Option Addr) (n cap : Nat) (zs : List Int) (w : World) (h : Bs w a n cap zs) :
    Calls Tryd.prog 37 #[.slice a n cap] w fun e w' => RNexts w zs e w' := by
  by_cases h8 : n < 8
  · refine (rnext_short a n cap w h8).mono ?_
    rintro e w' ⟨rfl, rfl⟩
    exact ⟨Below.refl _ _, .inl ⟨fun N hN => by have := hN.1; have := h.len; omega, rfl⟩⟩
  · have hl := h.len
    rcases h.has with ⟨_, h0⟩ | ⟨x, hx, hB⟩
    · rw [h0] at hl; simp at hl; omega
    obtain ⟨b, off, hxe, hc⟩ := ints_at (k := .u8) hB (by omega)
    subst hxe
    subst hx
    have hlt : b < w.heap.size := by have := World.block_lt_of_cell? w _ (hc 0 (by omega)); simpa using this
    exact rnext_long b off n cap zs w hl (by omega) h.fits h.cap h.small hlt h.has h.oct
end Go.Proofs.YteeclghhoioapaaDoor
