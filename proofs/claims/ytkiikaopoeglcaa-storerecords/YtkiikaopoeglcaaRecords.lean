/-
  The walk of StoreRecords.
-/
import Derived.Test.YtkiikaopoeglcaaRRd
import Derived.Test.YtkiikaopoeglcaaBuf
namespace Go.Proofs.Ytkiikaopoeglcaa
open Go.RowKit
set_option linter.unusedVariables false
set_option linter.unusedSimpArgs false
theorem empty_built (w : World) (B : Nat) (hB : B ≤ w.heap.size) : Buf (w.alloc (.cells #[] 5)) B (.slice (some ⟨w.heap.size, 0, none⟩) 0 0) [] :=
  Buf.of_own (n := 0) Octets.nil ⟨rfl, .inr ⟨_, 0, _, rfl, hB, heap_alloc_new w _, Nat.le_refl _, by decide, rfl, rfl⟩⟩
theorem given_one {w w2 w3 : World} {v : Value} {zs : List Int} (B2 : Below w.heap.size w w2) (hB : Buf w3 w.heap.size v ([] ++ zs)) (hg : (w2.alloc (.cells #[] 5)).grownBy w3 (Value.slice (some ⟨w2.heap.size, 0, none⟩) 0 0).ownBlock) :
    Hid (Buf (w3.alloc (.cells #[.int .u8 201] 5)) w.heap.size v zs) ∧ Hid (Has (w3.alloc (.cells #[.int .u8 201] 5)) (some ⟨w3.heap.size, 0, none⟩) [201]) ∧ Hid (Below w.heap.size w (w3.alloc (.cells #[.int .u8 201] 5))) ∧ Hid (Below w2.heap.size w2 w3) := by
  have s2 := B2.size
  have b3 : Below w2.heap.size w2 w3 := ((Below.refl _ w2).alloc (Nat.le_refl _) _).grown hg (by simp) (fun k h => by cases h; exact Nat.le_refl _)
  refine ⟨?_, Has.of_block (zs := [201]) (heap_alloc_new w3 _), ?_, b3⟩
  · exact hB.keep fun k hk => heap_alloc_old _ _ (hB.low hk).2
  · exact (B2.trans (b3.mono s2)).alloc (by have := b3.size; omega) _
theorem given_two {w w2 w3 w4 : World} {v v3 : Value} {zs : List Int} {n : Nat} (hn : zs.length = n) (hz : Octets zs) (hl : n ≤ 140737488351232) (B3 : Hid (Below w2.heap.size w2 w3)) (BW : Hid (Below w.heap.size w (w3.alloc (.cells #[.int .u8 201] 5)))) (H3 : Hid (Buf (w3.alloc (.cells #[.int .u8 201] 5)) w.heap.size v3 zs)) (hB : Buf w4 w.heap.size v (zs ++ [201])) (hg : (w3.alloc (.cells #[.int .u8 201] 5)).grownBy w4 v3.ownBlock) (hv : ∀ k, v3.ownBlock = some k → w2.heap.size ≤ k) :
    ∃ g off cp, v = .slice (some ⟨g, off, none⟩) (n + 1) cp ∧ Hid (Bs w4 (some ⟨g, off, none⟩) n cp zs) ∧ (n : Int) + 1 ≤ cp ∧ (cp : Int) ≤ 9223372036854775807 ∧ Hid (w4.cell? ⟨g, off + n, none⟩ = some (.int .u8 201)) ∧ Hid (Below w.heap.size w w4) ∧ Hid (Below w2.heap.size w2 w4) := by
  have s3 := B3.out.size
  have bw : Below w.heap.size w w4 := BW.out.grown hg BW.out.size (fun k h => (H3.out.low h).1)
  have b2 : Below w2.heap.size w2 w4 := (B3.out.alloc s3 _).grown hg (by simp; omega) (fun k h => hv k h)
  rcases hB.2 with ⟨_, h⟩ | ⟨g, off, cap, cur, rfl, hb, hgg, h1, h2, h3, h4⟩
  · simp at h
  have hle : (zs ++ [201]).length = n + 1 := by simp [hn]
  rw [hle] at h1 h4 ⊢
  unfold maxLen at h2
  refine ⟨g, off, cap, rfl, ⟨hn, .inr ⟨_, rfl, fun j hj => ?_⟩, hz, (fun h => by cases h), by omega, by unfold maxLen; omega, by omega⟩, by omega, by omega, ?_, bw, b2⟩
  · rw [Addr.add_lit, h4 j (by omega)]
    simp [List.getD, List.getElem?_append_left hj]
  · show w4.cell? ⟨g, off + n, none⟩ = some (.int .u8 201)
    rw [h4 n (by omega)]
    simp [List.getD, ← hn]
theorem one_block {w2 w3 : World} {v : Value} (h : v.ownBlock = (Value.slice (some ⟨w2.heap.size, 0, none⟩) 0 0).ownBlock ∨ ∀ g, v.ownBlock = some g → (w2.alloc (.cells #[] 5)).heap.size ≤ g) : Hid (∀ k, v.ownBlock = some k → w2.heap.size ≤ k) := by
  intro k hk
  rcases h with h | h
  · rw [h] at hk; cases hk; exact Nat.le_refl _
  · have := h k hk; simp at this; omega
set_option maxRecDepth 100000 in
set_option maxHeartbeats 2000000 in
theorem records_any (nr : Int) (s : ByteArray) (a : Option Addr) (n cap : Nat) (zs : List Int) (w : World) (hP : Bs w a n cap zs) (hs : s.size ≤ 140737488355328) (hl : n ≤ 140737488351232) :
    Calls Try.prog 3 #[.int .i64 nr, .string s, .slice a n cap] w fun e w' => e = .returned (.bool true) ∧ Below w.heap.size w w' := by
  obtain ⟨i0, hi, hz0, hz1, hz2⟩ := info_parts Try.info5
  have HP : Hid (Bs w a n cap zs) := hP
  clear hP
  go_enter Try.func3, Try.ntmps3
  go_wp2_with fail
  refine (record_any nr s _ hs).mono ?_
  rintro e w1 ⟨a1, m1, c1, rfl, hm1, hh1, hb1⟩
  go_wp2_with fail
  refine (rrecord_any nr s _ hs).mono ?_
  rintro e w2 ⟨a2, m2, c2, rfl, hm2, hh2, hb2⟩
  have B2 : Below w.heap.size w w2 := hb1.trans (hb2.mono hb1.size)
  have HH1 : Hid (Has w2 a1 (recF nr s).1) := hh1.of_below hb2
  have HH2 : Hid (Has w2 a2 (recF nr s).1) := hh2
  have HM1 : Hid ((recF nr s).1.length = m1) := hm1
  have HM2 : Hid ((recF nr s).1.length = m2) := hm2
  have P2 : Hid (Bs w2 a n cap zs) := HP.out.below B2
  have s2 := B2.size
  clear hh1 hh2 hm1 hm2 hb1 hb2
  generalize (recF nr s).2 = code at *
  go_wp2_with (first
    | (at_builtin; refine wpList_append_buf _ rfl (.tmp 30) (.tmp 31) 22 rfl w.heap.size i0 Try.underlying22 hi hz0 hz1 hz2 _ [] rfl (empty_built w2 _ s2) a n cap zs rfl P2.out.len P2.out.bare (P2.out.has.of_below ((Below.refl _ _).alloc (Nat.le_refl _) _)) P2.out.oct (by simp; omega) (by simp; omega) ?_; intro v3 w3 hB3 hg3 ho3; have HO3 := one_block (w3 := w3) ho3; obtain ⟨F3, S3, BW3, B3⟩ := given_one B2 hB3 hg3; clear hB3 hg3 ho3)
    | (at_builtin; refine wpList_append_buf _ rfl (.tmp 32) (.tmp 33) 22 rfl w.heap.size i0 Try.underlying22 hi hz0 hz1 hz2 _ zs rfl F3.out (some ⟨w3.heap.size, 0, none⟩) 1 1 [201] rfl rfl (fun h => by cases h) S3.out (fun j => by match j with | 0 => simp | j + 1 => simp) (by rw [P2.out.len]; omega) (by have := BW3.out.size; exact this) ?_; intro v4 w4 hB4 hg4 _; obtain ⟨g, off, cp, rfl, P4, k1, k2, C4, BW4, B4⟩ := given_two P2.out.len P2.out.oct hl B3 BW3 F3 hB4 hg4 HO3.out; clear hB4 hg4 F3 S3 BW3 B3 HO3)
    | (go_at_call 6; refine (read_any (some ⟨g, off, none⟩) n cp zs _ P4.out).mono ?_; rintro e w5 ⟨rfl, hb5⟩; have P45 : Hid (Bs w5 (some ⟨g, off, none⟩) n cp zs) := P4.out.below hb5; have BW5 : Hid (Below w.heap.size w w5) := BW4.out.trans (hb5.mono BW4.out.size); have B5 : Hid (Below w2.heap.size w2 w5) := B4.out.trans (hb5.mono B4.out.size); have C5 : Hid (w5.cell? ⟨g, off + n, none⟩ = some (.int .u8 201)) := cell_of_below hb5 C4.out; clear hb5)
    | (go_at_call 7; refine (rread_any a n cap zs _ (HP.out.below BW5.out)).mono ?_; rintro e w6 ⟨rfl, hb6⟩; have P46 : Hid (Bs w6 (some ⟨g, off, none⟩) n cp zs) := P45.out.below hb6; have BW6 : Hid (Below w.heap.size w w6) := BW5.out.trans (hb6.mono BW5.out.size); have B6 : Hid (Below w2.heap.size w2 w6) := B5.out.trans (hb6.mono B5.out.size); have C6 : Hid (w6.cell? ⟨g, off + n, none⟩ = some (.int .u8 201)) := cell_of_below hb6 C5.out; clear hb6))
  obtain ⟨X, hX⟩ : ∃ X, bstr (recF nr s).1 = X := ⟨_, rfl⟩
  obtain ⟨Y, hY⟩ : ∃ Y, bstr zs = Y := ⟨_, rfl⟩
  generalize (readF zs).1 = r1
  generalize (readF zs).2.1 = r2
  generalize (readF zs).2.2 = r3
  have t1 : ∀ q, (convert 22 9 (.slice a1 m1 c1)).run Try.prog (w6.drewN q) = .ok (.string X) (w6.drewN q) := fun q => hX ▸ str_of _ a1 m1 c1 _ HM1.out (has_drewN (HH1.out.of_below B6.out) q)
  have t2 : ∀ q, (convert 22 9 (.slice a2 m2 c2)).run Try.prog (w6.drewN q) = .ok (.string X) (w6.drewN q) := fun q => hX ▸ str_of _ a2 m2 c2 _ HM2.out (has_drewN (HH2.out.of_below B6.out) q)
  have t3 : ∀ q, (convert 22 9 (.slice (some ⟨g, off, none⟩) n cp)).run Try.prog (w6.drewN q) = .ok (.string Y) (w6.drewN q) := fun q => hY ▸ str_of _ _ n cp _ P46.out.len (has_drewN P46.out.has q)
  have t4 : ∀ q, (convert 22 9 (.slice a n cap)).run Try.prog (w6.drewN q) = .ok (.string Y) (w6.drewN q) := fun q => hY ▸ str_of _ a n cap _ HP.out.len (has_drewN (HP.out.below BW6.out).has q)
  have C : w6.cell? ⟨g, off + n, none⟩ = some (.int .u8 201) := C6.out
  have n1 : (n : Int) < (n + 1 : Nat) := by omega
  have n2 : (n : Int) ≤ cp := by omega
  have n3 : (0 : Int) ≤ n := by omega
  clear hX hY P4 P45 C4 C5 BW4 BW5 B4 B5 HH1 HH2 HM1 HM2 P2 B2
  go_quiet (fail)
  go_wp2
  go_ret
  exact ⟨rfl, below_drewN BW6.out _⟩
end Go.Proofs.Ytkiikaopoeglcaa
