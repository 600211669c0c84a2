/-
  The document's Sub.
-/
import Derived.Test.YtgododijnogegaaSb14
namespace Go.Proofs.Ytgododijnogegaa
open Go.RowKit
set_option linter.unusedVariables false
set_option linter.unusedSimpArgs false
set_option maxRecDepth 100000
/-- a tree's root without its key -/
theorem TrIn.bare {w : World} {F : Nat → Prop} {t : Tr} {p : Nat} (h : TrIn w F t p) : w.frozen? ⟨p, 1, none⟩ = false ∧ TrIn (w.setCell ⟨p, 1, none⟩ (.string ByteArray.empty)) F t.bare p := by
  obtain ⟨kd, key, tx, quo, ln, kids⟩ := t
  rw [TrIn] at h
  obtain ⟨h1, h2, v, ps, h3, h4, h5, h6⟩ := h
  have ho : ∀ k, k ≠ p → (w.setCell ⟨p, 1, none⟩ (.string ByteArray.empty)).heap[k]? = w.heap[k]? := fun k hk => Below.heap_setCell _ _ _ _ hk
  refine ⟨by simp [World.frozen?, h3], ?_⟩
  rw [Tr.bare, TrIn]
  refine ⟨h1, by decide, v, ps, ?_, h4, own_block h5 (fun k hk => ho k ?_), TrsIn.turn (fun k hk => hk) (fun k hk => ho k hk.2) kids ps h6⟩
  · rw [heap_setCell_same w p 1 _ 68 _ h3]; rfl
  · rintro rfl
    obtain ⟨cur, hc⟩ := own_cells h5 k hk
    rw [hc] at h3
    cases h3
theorem Own.low {w : World} {base base' : Nat} {v : Value} {os : List Nx} (h : Own w base v os) (hb : base' ≤ base) : Own w base' v os := ⟨own_low' h.row hb, fun o ho => ⟨own_low' (h.kids o ho).1 hb, (h.kids o ho).2⟩⟩
set_option maxHeartbeats 8000000 in
theorem rsub_any (w : World) (a : Option Addr) (n cap : Nat) (l : List Nx) (z : Int) (hn : l.length = n) (hl : n ≤ 17592186043904) (hS : Ns w a l) (hz : -9223372036854775808 ≤ z ∧ z ≤ 9223372036854775807) :
    Calls Try.prog 20 #[.slice a n cap, .int .i64 z] w fun e w' => ∃ v os, e = .returned v ∧ Own w' w.heap.size v os ∧ os.map Nx.nd = subF l z ∧ Below w.heap.size w w' := by
  have HMAY := hideL (rmay_any w a n cap l hn hl hS)
  have HS := hideL hS
  have HN := hideL hn
  clear hS hn
  by_cases hd : 0 < depF l
  · have hdd : decide (0 < depF l) = true := by simpa using hd
    rw [hdd] at HMAY
    by_cases h0 : 0 ≤ z ∧ z < n
    · obtain ⟨q, rfl⟩ : ∃ q : Nat, z = q := ⟨z.toNat, by omega⟩
      obtain ⟨h0, h1⟩ := h0
      obtain ⟨t0, ht0⟩ := dep_whole hd
      have hq : q < l.length := by rw [HN.out]; omega
      obtain ⟨t, e, ht⟩ := whole_part ht0 hq
      have hqe := trT_in ht
      have hflat := trT_flat 16 q e t ht
      have hn4 : n ≤ 4096 := by have := ht0.1; have := HN.out; omega
      have HT := hideL ht
      have HF := hideL ((subF_at hd hq ht).trans (part_flat ht).symm)
      have hsz : t.bare.size ≤ 4096 := by have := HN.out; rw [bare_size]; omega
      have hhi : t.bare.high ≤ 16 := by rw [bare_high]; exact hqe.2.2
      clear ht0 hqe hd ht hq hflat
      go_enter Try.func20, Try.ntmps20
      go_wp2_with fail
      refine HMAY.out.mono ?_
      rintro e' w1 ⟨rfl, hb1⟩
      have HB1 := hideL hb1
      clear hb1
      go_wp2_with fail
      refine (grown_any a n cap l HN.out hl 16 1 rfl w1 q (HS.out.below HB1.out) (by omega)).mono ?_
      rintro e' w2 ⟨hb2, hE⟩
      rw [HT.out] at hE
      dsimp only at hE
      obtain ⟨p, rfl, hT⟩ := hE
      have hpl := hT.cells.2.2
      have zp := hT.cells.1
      obtain ⟨zf, hTb⟩ := hT.bare
      have HTB := hideL hTb
      have HB2 := hideL (HB1.out.trans (hb2.mono HB1.out.size))
      have HS2 := hideL hb2.size
      have HPL := hideL hpl
      clear hb2 hT hTb hpl
      go_wp2_with fail
      refine (laid_any (w2.setCell ⟨p, 1, none⟩ (.string ByteArray.empty)).heap.size _ (fun k hk => ?_) 16 t.bare p _ (.slice none 0 0) [] hhi (by simpa using hsz) (Nat.le_refl _) HTB.out (Own.nil _ _)).mono ?_
      · have := hk.2; simpa using this
      rintro e' w3 ⟨v3, ns, rfl, hE⟩
      have HE := hideL hE
      clear hE
      go_wp2
      go_ret
      have hse : (w2.setCell ⟨p, 1, none⟩ (.string ByteArray.empty)).heap.size = w2.heap.size := by simp
      refine ⟨v3, ns, rfl, ?_, ?_, ?_⟩
      · have h1 := HE.out.own
        rw [List.nil_append] at h1
        exact h1.low (by rw [hse]; exact HB2.out.size)
      · rw [HE.out.nds, HF.out]; rfl
      · have h1 := HE.out.tch
        have h2 := HPL.out
        have h3 := HB1.out.size
        have h4 := HB2.out.size
        refine HB2.out.trans ⟨h1.os, h1.tape, h1.output, by have := h1.size; omega, fun k hk => ?_⟩
        rw [h1.block k (by omega) (by simp [Value.ownBlock])]
        exact Below.heap_setCell _ _ _ _ (by show k ≠ p; omega)
    · have HF := hideL (subF_no (l := l) (z := z) (fun h => h0 ⟨h.2.1, by rw [← HN.out]; exact h.2.2⟩))
      by_cases h1 : z < 0
      · clear h0 hd
        go_enter Try.func20, Try.ntmps20
        go_wp2_with fail
        refine HMAY.out.mono ?_
        rintro e' w1 ⟨rfl, hb1⟩
        go_wp2
        go_ret
        exact ⟨_, [], rfl, Own.nil _ _, HF.out.symm, hb1⟩
      · have h1' : 0 ≤ z := by omega
        have h2 : (n : Int) ≤ z := by omega
        clear h0 hd
        go_enter Try.func20, Try.ntmps20
        go_wp2_with fail
        refine HMAY.out.mono ?_
        rintro e' w1 ⟨rfl, hb1⟩
        go_wp2
        go_ret
        exact ⟨_, [], rfl, Own.nil _ _, HF.out.symm, hb1⟩
  · have hdd : decide (0 < depF l) = false := by simpa using hd
    rw [hdd] at HMAY
    have HF := hideL (subF_no (l := l) (z := z) (fun h => hd h.1))
    clear hd
    go_enter Try.func20, Try.ntmps20
    go_wp2_with fail
    refine HMAY.out.mono ?_
    rintro e' w1 ⟨rfl, hb1⟩
    go_wp2
    go_ret
    exact ⟨_, [], rfl, Own.nil _ _, HF.out.symm, hb1⟩
end Go.Proofs.Ytgododijnogegaa
