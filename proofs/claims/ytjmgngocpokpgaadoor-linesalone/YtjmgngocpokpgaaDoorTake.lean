/-
  The reader's take: a token more.
-/
import Derived.Test.YtjmgngocpokpgaaDoorRdr
namespace Go.Proofs.YtjmgngocpokpgaaDoor
open Go.RowKit
set_option linter.unusedVariables false
set_option linter.unusedSimpArgs false
theorem rd_more {w w2 : World} {base b : Nat} {l : List UInt8} {num : Int} {p : Nat} {tv tv' : Value} {ts : List Tk} {t : Tk} {o : Obj} (q : Nat) (h : Rd w base b l num p tv ts) (ho : ((w.drewN q).alloc o).grownBy w2 tv.ownBlock) (hw : w2.ownsRow base 39 5 tv' (ts.length + 1) (ts.flatMap Tk.row ++ t.row)) (hb : base ≤ w.heap.size) :
    w2.heap[b]? = some (.cells #[.string ⟨l.toArray⟩, .int .i64 num, .int .i64 p, tv] 68 (0, 0)) ∧ Rd (w2.setCell ⟨b, 3, none⟩ tv') base b l num p tv' (ts ++ [t]) ∧ Below base w (w2.setCell ⟨b, 3, none⟩ tv') := by
  have hbl : b < w.heap.size := (Array.getElem?_eq_some_iff.1 h.blk).1
  have h2 : w2.heap[b]? = some (.cells #[.string ⟨l.toArray⟩, .int .i64 num, .int .i64 p, tv] 68 (0, 0)) :=
    ((ho.block b (by simp; omega) (fun e => own_not h.own h.blk (by decide) e)).trans ((heap_alloc_old _ _ (by simpa using hbl)).trans (by simp))).trans h.blk
  have hne : some b ≠ tv'.ownBlock := own_not hw h2 (by decide)
  refine ⟨h2, ⟨heap_setCell_same w2 b 3 _ _ _ h2, ?_, h.low⟩, ?_⟩
  · have : w2.ownsRow base 39 5 tv' (ts ++ [t]).length ((ts ++ [t]).flatMap Tk.row) := by simpa using hw
    exact own_blk this (fun k hk => heap_setCell_other _ _ _ _ (fun e => hne (by rw [hk]; subst e; rfl)))
  · have b1 : Below base w (w.drewN q) := below_drewN (Below.refl _ w) q
    have b2 : Below base w ((w.drewN q).alloc o) := b1.alloc (by simpa using hb) _
    have b3 : Below base w w2 := b2.grown ho (by simp; omega) (fun k hk => (h.own.lt k hk).1)
    exact b3.setCell h.low _
set_option maxRecDepth 100000 in
set_option maxHeartbeats 4000000 in
theorem take_any (l : List UInt8) (num : Int) (p b base : Nat) (tv : Value) (ts : List Tk) (k : Int) (sz : Nat) (text : List UInt8) (c : UInt8) (w : World) (hs : l.length ≤ 2 ^ 40) (hp : p < l.length) (hc : l[p]? = some c) (hz : p + sz ≤ l.length) (ht : ts.length ≤ 2 ^ 40) (hbw : base ≤ w.heap.size)
    (hR : Rd w base b l num p tv ts) :
    Calls Tryd.prog 39 #[.pointer (some ⟨b, 0, none⟩), .int .i64 k, .int .i64 sz, .string ⟨text.toArray⟩] w fun e w' => e = .returned (.tuple #[]) ∧ ∃ tv', Rd w' base b l num (skpF l (p + sz)) tv' (ts ++ [⟨k, num, p, text, quoF c.toNat⟩]) ∧ Below base w w' := by
  have hb := hR.blk
  have h0 : w.cell? ⟨b, 0, none⟩ = some (.string ⟨l.toArray⟩) := cell_of hb 0 _ rfl
  have h1 : w.cell? ⟨b, 1, none⟩ = some (.int .i64 num) := cell_of hb 1 _ rfl
  have h2 : w.cell? ⟨b, 2, none⟩ = some (.int .i64 p) := cell_of hb 2 _ rfl
  have h3 : w.cell? ⟨b, 3, none⟩ = some tv := cell_of hb 3 _ rfl
  have hbl : b < w.heap.size := (Array.getElem?_eq_some_iff.1 hb).1
  have lo := u8_lo c
  have hi := u8_hi c
  have p0 : (0 : Int) ≤ p := by omega
  have p1 : (p : Int) < l.length := by omega
  have hcp : (ByteArray.mk l.toArray)[p]'hp = c := (List.getElem?_eq_some_iff.1 hc).2
  obtain ⟨i39, hi39, hz0, hz1, hz2⟩ := info_parts Tryd.info39
  have HR : Hid (Rd w base b l num p tv ts) := hR
  have HB : Hid (w.heap[b]? = some (.cells #[.string ⟨l.toArray⟩, .int .i64 num, .int .i64 p, tv] 68 (0, 0))) := hb
  clear hR hb
  have hf : w.frozen? ⟨b, 3, none⟩ = false := by simp [World.frozen?, HB.out]
  go_enter Tryd.func39, Tryd.ntmps39
  go_wp2
  obtain ⟨S, hSd⟩ : ∃ S : World → Prop, S = fun w' => w'.cell? ⟨b, 0, none⟩ = some (.string ⟨l.toArray⟩) ∧ w'.cell? ⟨b, 1, none⟩ = some (.int .i64 num) ∧ w'.cell? ⟨b, 2, none⟩ = some (.int .i64 p) := ⟨_, rfl⟩
  have hS0 : S w.drew := by rw [hSd]; exact ⟨h0, h1, h2⟩
  refine wp_region_noPanic ?_
  refine wp_region_held_drew (S := S) (by kernel_rfl) hS0 ?_
  intro hS1
  refine wpAnyH_take (i := 0) (v := .pointer (some ⟨b, 0, none⟩)) rfl (by kernel_rfl) (by kernel_rfl) (by kernel_rfl) (fun _ _ _ h => h) (Or.inl ⟨by rfl, ?_⟩) hS1 ?_
  · intro w9 hSw; rw [hSd] at hSw; obtain ⟨s0, s1, s2⟩ := hSw; go_simp
  simp only [Act.put, List.setIfInBounds_toArray, List.set_cons_zero, List.set_cons_succ]
  refine wpAnyH_take (i := 1) (v := .pointer (some ⟨b, 0, none⟩)) rfl (by kernel_rfl) (by kernel_rfl) (by kernel_rfl) (fun _ _ _ h => h) (Or.inl ⟨by rfl, ?_⟩) hS1 ?_
  · intro w9 hSw; rw [hSd] at hSw; obtain ⟨s0, s1, s2⟩ := hSw; go_simp
  simp only [Act.put, List.setIfInBounds_toArray, List.set_cons_zero, List.set_cons_succ]
  refine wpAnyH_take (i := 2) (v := .pointer (some ⟨b, 0, none⟩)) rfl (by kernel_rfl) (by kernel_rfl) (by kernel_rfl) (fun _ _ _ h => h) (Or.inl ⟨by rfl, ?_⟩) hS1 ?_
  · intro w9 hSw; rw [hSd] at hSw; obtain ⟨s0, s1, s2⟩ := hSw; go_simp
  simp only [Act.put, List.setIfInBounds_toArray, List.set_cons_zero, List.set_cons_succ]
  refine wpAnyH_take (i := 3) (v := .pointer (some ⟨b, 3, none⟩)) rfl (by kernel_rfl) (by kernel_rfl) (by kernel_rfl) (fun _ _ _ h => h) (Or.inl ⟨by rfl, ?_⟩) hS1 ?_
  · intro w9 hSw; rw [hSd] at hSw; obtain ⟨s0, s1, s2⟩ := hSw; go_simp
  simp only [Act.put, List.setIfInBounds_toArray, List.set_cons_zero, List.set_cons_succ]
  refine wpAnyH_take (i := 5) (v := .int .i64 k) rfl (by kernel_rfl) (by kernel_rfl) (by kernel_rfl) (fun _ _ _ h => h) (Or.inl ⟨by rfl, ?_⟩) hS1 ?_
  · intro w9 hSw; rw [hSd] at hSw; obtain ⟨s0, s1, s2⟩ := hSw; go_simp
  simp only [Act.put, List.setIfInBounds_toArray, List.set_cons_zero, List.set_cons_succ]
  refine wpAnyH_take (i := 6) (v := .pointer (some ⟨b, 0, none⟩)) rfl (by kernel_rfl) (by kernel_rfl) (by kernel_rfl) (fun _ _ _ h => h) (Or.inl ⟨by rfl, ?_⟩) hS1 ?_
  · intro w9 hSw; rw [hSd] at hSw; obtain ⟨s0, s1, s2⟩ := hSw; go_simp
  simp only [Act.put, List.setIfInBounds_toArray, List.set_cons_zero, List.set_cons_succ]
  refine wpAnyH_take (i := 7) (v := .pointer (some ⟨b, 0, none⟩)) rfl (by kernel_rfl) (by kernel_rfl) (by kernel_rfl) (fun _ _ _ h => h) (Or.inl ⟨by rfl, ?_⟩) hS1 ?_
  · intro w9 hSw; rw [hSd] at hSw; obtain ⟨s0, s1, s2⟩ := hSw; go_simp
  simp only [Act.put, List.setIfInBounds_toArray, List.set_cons_zero, List.set_cons_succ]
  refine wpAnyH_take (i := 8) (v := .pointer (some ⟨b, 1, none⟩)) rfl (by kernel_rfl) (by kernel_rfl) (by kernel_rfl) (fun _ _ _ h => h) (Or.inl ⟨by rfl, ?_⟩) hS1 ?_
  · intro w9 hSw; rw [hSd] at hSw; obtain ⟨s0, s1, s2⟩ := hSw; go_simp
  simp only [Act.put, List.setIfInBounds_toArray, List.set_cons_zero, List.set_cons_succ]
  refine wpAnyH_take (i := 9) (v := .int .i64 num) rfl (by kernel_rfl) (by kernel_rfl) (by kernel_rfl) (fun _ _ _ h => h) (Or.inl ⟨by rfl, ?_⟩) hS1 ?_
  · intro w9 hSw; rw [hSd] at hSw; obtain ⟨s0, s1, s2⟩ := hSw; go_simp
  simp only [Act.put, List.setIfInBounds_toArray, List.set_cons_zero, List.set_cons_succ]
  refine wpAnyH_take (i := 10) (v := .pointer (some ⟨b, 0, none⟩)) rfl (by kernel_rfl) (by kernel_rfl) (by kernel_rfl) (fun _ _ _ h => h) (Or.inl ⟨by rfl, ?_⟩) hS1 ?_
  · intro w9 hSw; rw [hSd] at hSw; obtain ⟨s0, s1, s2⟩ := hSw; go_simp
  simp only [Act.put, List.setIfInBounds_toArray, List.set_cons_zero, List.set_cons_succ]
  refine wpAnyH_take (i := 11) (v := .pointer (some ⟨b, 0, none⟩)) rfl (by kernel_rfl) (by kernel_rfl) (by kernel_rfl) (fun _ _ _ h => h) (Or.inl ⟨by rfl, ?_⟩) hS1 ?_
  · intro w9 hSw; rw [hSd] at hSw; obtain ⟨s0, s1, s2⟩ := hSw; go_simp
  simp only [Act.put, List.setIfInBounds_toArray, List.set_cons_zero, List.set_cons_succ]
  refine wpAnyH_take (i := 12) (v := .pointer (some ⟨b, 2, none⟩)) rfl (by kernel_rfl) (by kernel_rfl) (by kernel_rfl) (fun _ _ _ h => h) (Or.inl ⟨by rfl, ?_⟩) hS1 ?_
  · intro w9 hSw; rw [hSd] at hSw; obtain ⟨s0, s1, s2⟩ := hSw; go_simp
  simp only [Act.put, List.setIfInBounds_toArray, List.set_cons_zero, List.set_cons_succ]
  refine wpAnyH_take (i := 13) (v := .int .i64 p) rfl (by kernel_rfl) (by kernel_rfl) (by kernel_rfl) (fun _ _ _ h => h) (Or.inl ⟨by rfl, ?_⟩) hS1 ?_
  · intro w9 hSw; rw [hSd] at hSw; obtain ⟨s0, s1, s2⟩ := hSw; go_simp
  simp only [Act.put, List.setIfInBounds_toArray, List.set_cons_zero, List.set_cons_succ]
  refine wpAnyH_take (i := 14) (v := .string ⟨text.toArray⟩) rfl (by kernel_rfl) (by kernel_rfl) (by kernel_rfl) (fun _ _ _ h => h) (Or.inl ⟨by rfl, ?_⟩) hS1 ?_
  · intro w9 hSw; rw [hSd] at hSw; obtain ⟨s0, s1, s2⟩ := hSw; go_simp
  simp only [Act.put, List.setIfInBounds_toArray, List.set_cons_zero, List.set_cons_succ]
  refine wpAnyH_take (i := 15) (v := .pointer (some ⟨b, 0, none⟩)) rfl (by kernel_rfl) (by kernel_rfl) (by kernel_rfl) (fun _ _ _ h => h) (Or.inl ⟨by rfl, ?_⟩) hS1 ?_
  · intro w9 hSw; rw [hSd] at hSw; obtain ⟨s0, s1, s2⟩ := hSw; go_simp
  simp only [Act.put, List.setIfInBounds_toArray, List.set_cons_zero, List.set_cons_succ]
  refine wpAnyH_take (i := 16) (v := .pointer (some ⟨b, 0, none⟩)) rfl (by kernel_rfl) (by kernel_rfl) (by kernel_rfl) (fun _ _ _ h => h) (Or.inl ⟨by rfl, ?_⟩) hS1 ?_
  · intro w9 hSw; rw [hSd] at hSw; obtain ⟨s0, s1, s2⟩ := hSw; go_simp
  simp only [Act.put, List.setIfInBounds_toArray, List.set_cons_zero, List.set_cons_succ]
  refine wpAnyH_take (i := 17) (v := .pointer (some ⟨b, 0, none⟩)) rfl (by kernel_rfl) (by kernel_rfl) (by kernel_rfl) (fun _ _ _ h => h) (Or.inl ⟨by rfl, ?_⟩) hS1 ?_
  · intro w9 hSw; rw [hSd] at hSw; obtain ⟨s0, s1, s2⟩ := hSw; go_simp
  simp only [Act.put, List.setIfInBounds_toArray, List.set_cons_zero, List.set_cons_succ]
  refine wpAnyH_take (i := 18) (v := .string ⟨l.toArray⟩) rfl (by kernel_rfl) (by kernel_rfl) (by kernel_rfl) (fun _ _ _ h => h) (Or.inl ⟨by rfl, ?_⟩) hS1 ?_
  · intro w9 hSw; rw [hSd] at hSw; obtain ⟨s0, s1, s2⟩ := hSw; go_simp
  simp only [Act.put, List.setIfInBounds_toArray, List.set_cons_zero, List.set_cons_succ]
  refine wpAnyH_take (i := 19) (v := .pointer (some ⟨b, 0, none⟩)) rfl (by kernel_rfl) (by kernel_rfl) (by kernel_rfl) (fun _ _ _ h => h) (Or.inl ⟨by rfl, ?_⟩) hS1 ?_
  · intro w9 hSw; rw [hSd] at hSw; obtain ⟨s0, s1, s2⟩ := hSw; go_simp
  simp only [Act.put, List.setIfInBounds_toArray, List.set_cons_zero, List.set_cons_succ]
  refine wpAnyH_take (i := 20) (v := .pointer (some ⟨b, 0, none⟩)) rfl (by kernel_rfl) (by kernel_rfl) (by kernel_rfl) (fun _ _ _ h => h) (Or.inl ⟨by rfl, ?_⟩) hS1 ?_
  · intro w9 hSw; rw [hSd] at hSw; obtain ⟨s0, s1, s2⟩ := hSw; go_simp
  simp only [Act.put, List.setIfInBounds_toArray, List.set_cons_zero, List.set_cons_succ]
  refine wpAnyH_take (i := 21) (v := .pointer (some ⟨b, 2, none⟩)) rfl (by kernel_rfl) (by kernel_rfl) (by kernel_rfl) (fun _ _ _ h => h) (Or.inl ⟨by rfl, ?_⟩) hS1 ?_
  · intro w9 hSw; rw [hSd] at hSw; obtain ⟨s0, s1, s2⟩ := hSw; go_simp
  simp only [Act.put, List.setIfInBounds_toArray, List.set_cons_zero, List.set_cons_succ]
  refine wpAnyH_take (i := 22) (v := .int .i64 p) rfl (by kernel_rfl) (by kernel_rfl) (by kernel_rfl) (fun _ _ _ h => h) (Or.inl ⟨by rfl, ?_⟩) hS1 ?_
  · intro w9 hSw; rw [hSd] at hSw; obtain ⟨s0, s1, s2⟩ := hSw; go_simp
  simp only [Act.put, List.setIfInBounds_toArray, List.set_cons_zero, List.set_cons_succ]
  refine wpAnyH_take (i := 23) (v := .int .u8 (c.toNat : Int)) rfl (by kernel_rfl) (by kernel_rfl) (by kernel_rfl) (fun _ _ _ h => h) (Or.inl ⟨by rfl, ?_⟩) hS1 ?_
  · intro w9 hSw; rw [hSd] at hSw; obtain ⟨s0, s1, s2⟩ := hSw; go_simp
  simp only [Act.put, List.setIfInBounds_toArray, List.set_cons_zero, List.set_cons_succ]
  have HQ : Hid ((w.drew.alloc (.cells #[.int .i64 k, .int .i64 num, .int .i64 p, .string ⟨text.toArray⟩, .bool (quoF c.toNat)] 39)).ownsRow base 39 5 tv ts.length (ts.flatMap Tk.row)) := own_blk HR.out.own (fun j hj => heap_alloc_old w.drew _ (HR.out.own.lt j hj).2)
  have HN : Hid (∀ j u, (Tk.row ⟨k, num, p, text, quoF c.toNat⟩)[j]? = some u → (w.drew.alloc (.cells #[.int .i64 k, .int .i64 num, .int .i64 p, .string ⟨text.toArray⟩, .bool (quoF c.toNat)] 39)).cell? ((⟨w.heap.size, 0, none⟩ : Addr).add j) = some u) := World.news_of_block (heap_alloc_new w.drew _)
  have HM : ∀ (w3 : World) (v' : Value), w3.ownsRow base 39 5 v' (ts.length + 1) (ts.flatMap Tk.row ++ Tk.row ⟨k, num, p, text, quoF c.toNat⟩) → (w.drew.alloc (.cells #[.int .i64 k, .int .i64 num, .int .i64 p, .string ⟨text.toArray⟩, .bool (quoF c.toNat)] 39)).grownBy w3 tv.ownBlock → Hid (w3.heap[b]? = some (.cells #[.string ⟨l.toArray⟩, .int .i64 num, .int .i64 p, tv] 68 (0, 0)) ∧ Rd (w3.setCell ⟨b, 3, none⟩ v') base b l num p v' (ts ++ [⟨k, num, p, text, quoF c.toNat⟩]) ∧ Below base w (w3.setCell ⟨b, 3, none⟩ v')) := fun w3 v' ho hg => rd_more 1 HR.out hg ho hbw
  have p2 : ((p : Int) + sz) ≤ l.length := by omega
  have hS2 : S (w.drew.alloc (.cells #[.int .i64 k, .int .i64 num, .int .i64 p, .string ⟨text.toArray⟩, .bool (quoF c.toNat)] 39)) := by
    rw [hSd]
    exact ⟨(World.cell?_alloc_lt _ _ _ hbl).trans h0, (World.cell?_alloc_lt _ _ _ hbl).trans h1, (World.cell?_alloc_lt _ _ _ hbl).trans h2⟩
  refine wpAnyH_ready (rs := [4, 24]) (by kernel_rfl) (by simp) ?_
  refine AllReadyH.cons (i := 4) rfl (fun K hK => ?_) (AllReadyH.cons (i := 24) rfl (fun K hK => ?_) AllReadyH.nil)
  · go_simp
    refine hK.out _ _ hS1 (fun _ => ?_)
    clear hK K
    refine wpAnyH_ready (rs := [24]) (by kernel_rfl) (by simp) ?_
    refine AllReadyH.cons (i := 24) rfl (fun K hK => ?_) AllReadyH.nil
    go_simp
    refine (isQuote_any _ lo hi _).mono ?_
    rintro e w' ⟨rfl, rfl⟩
    dsimp only
    refine hK.out _ _ hS1 (fun _ => ?_)
    clear hK K
    refine wpAnyH_take (i := 25) (v := .agg #[.int .i64 k, .int .i64 num, .int .i64 p, .string ⟨text.toArray⟩, .bool (quoF c.toNat)]) rfl (by kernel_rfl) (by kernel_rfl) (by kernel_rfl) (fun _ _ _ h => h) (Or.inl ⟨by rfl, ?_⟩) hS1 ?_
    · intro w9 hSw; rw [hSd] at hSw; obtain ⟨s0, s1, s2⟩ := hSw; go_simp
    simp only [Act.put, List.setIfInBounds_toArray, List.set_cons_zero, List.set_cons_succ]
    refine wpAnyH_ready (rs := [26]) (by kernel_rfl) (by simp) ?_
    refine AllReadyH.cons (i := 26) rfl (fun K hK => ?_) AllReadyH.nil
    go_simp
    refine hK.out _ _ hS2 (fun _ => ?_)
    clear hK K
    refine wpAnyH_ready (rs := [27]) (by kernel_rfl) (by simp) ?_
    refine AllReadyH.cons (i := 27) rfl (fun K hK => ?_) AllReadyH.nil
    refine step_append_own rfl (.tmp 12) (.tmp 34) 29 rfl base 39 i39 _ 5 48 Tryd.underlying29 hi39 hz0 hz1 hz2 rfl (by decide) tv ts.length (ts.flatMap Tk.row) rfl HQ.out ⟨w.heap.size, 0, none⟩ 1 1 (Tk.row ⟨k, num, p, text, quoF c.toNat⟩) rfl rfl HN.out (Tk.row_one _) (by unfold maxLen; omega) (by omega) (by simp; omega) ?_
    intro v' w3 hown3 hgrow3
    obtain ⟨g9, c9, hv9, _⟩ := hown3.form (by omega)
    subst hv9
    obtain ⟨hb3, hR3, hB3⟩ := (HM w3 _ hown3 hgrow3).out
    clear hown3 hgrow3
    have c0 : w3.cell? ⟨b, 0, none⟩ = some (.string ⟨l.toArray⟩) := cell_of hb3 0 _ rfl
    have c1 : w3.cell? ⟨b, 1, none⟩ = some (.int .i64 num) := cell_of hb3 1 _ rfl
    have c2 : w3.cell? ⟨b, 2, none⟩ = some (.int .i64 p) := cell_of hb3 2 _ rfl
    have c3 : w3.cell? ⟨b, 3, none⟩ = some tv := cell_of hb3 3 _ rfl
    have hf3 : w3.frozen? ⟨b, 3, none⟩ = false := by simp [World.frozen?, hb3]
    have hS3 : S w3 := by rw [hSd]; exact ⟨c0, c1, c2⟩
    have hS4 : S (w3.setCell ⟨b, 3, none⟩ (.slice (some ⟨g9, 0, none⟩) (ts.length + 1) c9)) := by rw [hSd]; exact ⟨(World.cell?_setCell_other w3 _ _ _ (by simp)).trans c0, (World.cell?_setCell_other w3 _ _ _ (by simp)).trans c1, (World.cell?_setCell_other w3 _ _ _ (by simp)).trans c2⟩
    refine hK.out _ _ hS3 (fun _ => ?_)
    clear hK K
    simp only [Act.put, List.setIfInBounds_toArray, List.set_cons_zero, List.set_cons_succ]
    refine wpAnyH_take (i := 28) (v := .pointer (some ⟨b, 0, none⟩)) rfl (by kernel_rfl) (by kernel_rfl) (by kernel_rfl) (fun _ _ _ h => h) (Or.inl ⟨by rfl, ?_⟩) hS3 ?_
    · intro w9 hSw; go_simp
    simp only [Act.put, List.setIfInBounds_toArray, List.set_cons_zero, List.set_cons_succ]
    refine wpAnyH_take (i := 29) (v := .pointer (some ⟨b, 3, none⟩)) rfl (by kernel_rfl) (by kernel_rfl) (by kernel_rfl) (fun _ _ _ h => h) (Or.inl ⟨by rfl, ?_⟩) hS3 ?_
    · intro w9 hSw; go_simp
    simp only [Act.put, List.setIfInBounds_toArray, List.set_cons_zero, List.set_cons_succ]
    refine wpAnyH_ready (rs := [30]) (by kernel_rfl) (by simp) ?_
    refine AllReadyH.cons (i := 30) rfl (fun K hK => ?_) AllReadyH.nil
    go_simp
    refine hK.out _ _ hS4 (fun _ => ?_)
    clear hK K
    refine wpAnyH_done (by kernel_rfl) ?_ _
    refine NoPanic.normal ?_
    have HR3 := hide2 hR3
    have HB3 := hide2 hB3
    clear hR3 hB3 hb3 c0 c1 c3 hS3 hS4
    obtain ⟨w4, hw4⟩ : ∃ w4, w3.setCell ⟨b, 3, none⟩ (.slice (some ⟨g9, 0, none⟩) (ts.length + 1) c9) = w4 := ⟨_, rfl⟩
    rw [hw4] at HR3 HB3 ⊢
    clear hw4
    have d2 : w4.cell? ⟨b, 2, none⟩ = some (.int .i64 p) := cell_of HR3.out.blk 2 _ rfl
    have f2 : w4.frozen? ⟨b, 2, none⟩ = false := by simp [World.frozen?, HR3.out.blk]
    go_wp2_with fail
    refine (skip_any l num (p + sz) b _ _ (by omega) hz (rd_at HR3.out (p + sz)).blk).mono ?_
    rintro e w' ⟨rfl, q, rfl⟩
    go_wp2
    refine bodyPost_end (results_none rfl _ _ _) rfl ?_
    exact ⟨rfl, _, rd_at (rd_drew (rd_at HR3.out (p + sz)) q) _, (below_drewN (HB3.out.setCell HR3.out.low _) q).setCell HR3.out.low _⟩
  · go_simp
    refine (isQuote_any _ lo hi _).mono ?_
    rintro e w' ⟨rfl, rfl⟩
    dsimp only
    refine hK.out _ _ hS1 (fun _ => ?_)
    clear hK K
    refine wpAnyH_take (i := 25) (v := .agg #[.int .i64 k, .int .i64 num, .int .i64 p, .string ⟨text.toArray⟩, .bool (quoF c.toNat)]) rfl (by kernel_rfl) (by kernel_rfl) (by kernel_rfl) (fun _ _ _ h => h) (Or.inl ⟨by rfl, ?_⟩) hS1 ?_
    · intro w9 hSw; rw [hSd] at hSw; obtain ⟨s0, s1, s2⟩ := hSw; go_simp
    simp only [Act.put, List.setIfInBounds_toArray, List.set_cons_zero, List.set_cons_succ]
    refine wpAnyH_ready (rs := [4, 26]) (by kernel_rfl) (by simp) ?_
    refine AllReadyH.cons (i := 4) rfl (fun K hK => ?_) (AllReadyH.cons (i := 26) rfl (fun K hK => ?_) AllReadyH.nil)
    · go_simp
      refine hK.out _ _ hS1 (fun _ => ?_)
      clear hK K
      refine wpAnyH_ready (rs := [26]) (by kernel_rfl) (by simp) ?_
      refine AllReadyH.cons (i := 26) rfl (fun K hK => ?_) AllReadyH.nil
      go_simp
      refine hK.out _ _ hS2 (fun _ => ?_)
      clear hK K
      refine wpAnyH_ready (rs := [27]) (by kernel_rfl) (by simp) ?_
      refine AllReadyH.cons (i := 27) rfl (fun K hK => ?_) AllReadyH.nil
      refine step_append_own rfl (.tmp 12) (.tmp 34) 29 rfl base 39 i39 _ 5 48 Tryd.underlying29 hi39 hz0 hz1 hz2 rfl (by decide) tv ts.length (ts.flatMap Tk.row) rfl HQ.out ⟨w.heap.size, 0, none⟩ 1 1 (Tk.row ⟨k, num, p, text, quoF c.toNat⟩) rfl rfl HN.out (Tk.row_one _) (by unfold maxLen; omega) (by omega) (by simp; omega) ?_
      intro v' w3 hown3 hgrow3
      obtain ⟨g9, c9, hv9, _⟩ := hown3.form (by omega)
      subst hv9
      obtain ⟨hb3, hR3, hB3⟩ := (HM w3 _ hown3 hgrow3).out
      clear hown3 hgrow3
      have c0 : w3.cell? ⟨b, 0, none⟩ = some (.string ⟨l.toArray⟩) := cell_of hb3 0 _ rfl
      have c1 : w3.cell? ⟨b, 1, none⟩ = some (.int .i64 num) := cell_of hb3 1 _ rfl
      have c2 : w3.cell? ⟨b, 2, none⟩ = some (.int .i64 p) := cell_of hb3 2 _ rfl
      have c3 : w3.cell? ⟨b, 3, none⟩ = some tv := cell_of hb3 3 _ rfl
      have hf3 : w3.frozen? ⟨b, 3, none⟩ = false := by simp [World.frozen?, hb3]
      have hS3 : S w3 := by rw [hSd]; exact ⟨c0, c1, c2⟩
      have hS4 : S (w3.setCell ⟨b, 3, none⟩ (.slice (some ⟨g9, 0, none⟩) (ts.length + 1) c9)) := by rw [hSd]; exact ⟨(World.cell?_setCell_other w3 _ _ _ (by simp)).trans c0, (World.cell?_setCell_other w3 _ _ _ (by simp)).trans c1, (World.cell?_setCell_other w3 _ _ _ (by simp)).trans c2⟩
      refine hK.out _ _ hS3 (fun _ => ?_)
      clear hK K
      simp only [Act.put, List.setIfInBounds_toArray, List.set_cons_zero, List.set_cons_succ]
      refine wpAnyH_take (i := 28) (v := .pointer (some ⟨b, 0, none⟩)) rfl (by kernel_rfl) (by kernel_rfl) (by kernel_rfl) (fun _ _ _ h => h) (Or.inl ⟨by rfl, ?_⟩) hS3 ?_
      · intro w9 hSw; go_simp
      simp only [Act.put, List.setIfInBounds_toArray, List.set_cons_zero, List.set_cons_succ]
      refine wpAnyH_take (i := 29) (v := .pointer (some ⟨b, 3, none⟩)) rfl (by kernel_rfl) (by kernel_rfl) (by kernel_rfl) (fun _ _ _ h => h) (Or.inl ⟨by rfl, ?_⟩) hS3 ?_
      · intro w9 hSw; go_simp
      simp only [Act.put, List.setIfInBounds_toArray, List.set_cons_zero, List.set_cons_succ]
      refine wpAnyH_ready (rs := [30]) (by kernel_rfl) (by simp) ?_
      refine AllReadyH.cons (i := 30) rfl (fun K hK => ?_) AllReadyH.nil
      go_simp
      refine hK.out _ _ hS4 (fun _ => ?_)
      clear hK K
      refine wpAnyH_done (by kernel_rfl) ?_ _
      refine NoPanic.normal ?_
      have HR3 := hide2 hR3
      have HB3 := hide2 hB3
      clear hR3 hB3 hb3 c0 c1 c3 hS3 hS4
      obtain ⟨w4, hw4⟩ : ∃ w4, w3.setCell ⟨b, 3, none⟩ (.slice (some ⟨g9, 0, none⟩) (ts.length + 1) c9) = w4 := ⟨_, rfl⟩
      rw [hw4] at HR3 HB3 ⊢
      clear hw4
      have d2 : w4.cell? ⟨b, 2, none⟩ = some (.int .i64 p) := cell_of HR3.out.blk 2 _ rfl
      have f2 : w4.frozen? ⟨b, 2, none⟩ = false := by simp [World.frozen?, HR3.out.blk]
      go_wp2_with fail
      refine (skip_any l num (p + sz) b _ _ (by omega) hz (rd_at HR3.out (p + sz)).blk).mono ?_
      rintro e w' ⟨rfl, q, rfl⟩
      go_wp2
      refine bodyPost_end (results_none rfl _ _ _) rfl ?_
      exact ⟨rfl, _, rd_at (rd_drew (rd_at HR3.out (p + sz)) q) _, (below_drewN (HB3.out.setCell HR3.out.low _) q).setCell HR3.out.low _⟩
    · go_simp
      refine hK.out _ _ hS2 (fun _ => ?_)
      clear hK K
      refine wpAnyH_ready (rs := [4]) (by kernel_rfl) (by simp) ?_
      refine AllReadyH.cons (i := 4) rfl (fun K hK => ?_) AllReadyH.nil
      go_simp
      refine hK.out _ _ hS2 (fun _ => ?_)
      clear hK K
      refine wpAnyH_ready (rs := [27]) (by kernel_rfl) (by simp) ?_
      refine AllReadyH.cons (i := 27) rfl (fun K hK => ?_) AllReadyH.nil
      refine step_append_own rfl (.tmp 12) (.tmp 34) 29 rfl base 39 i39 _ 5 48 Tryd.underlying29 hi39 hz0 hz1 hz2 rfl (by decide) tv ts.length (ts.flatMap Tk.row) rfl HQ.out ⟨w.heap.size, 0, none⟩ 1 1 (Tk.row ⟨k, num, p, text, quoF c.toNat⟩) rfl rfl HN.out (Tk.row_one _) (by unfold maxLen; omega) (by omega) (by simp; omega) ?_
      intro v' w3 hown3 hgrow3
      obtain ⟨g9, c9, hv9, _⟩ := hown3.form (by omega)
      subst hv9
      obtain ⟨hb3, hR3, hB3⟩ := (HM w3 _ hown3 hgrow3).out
      clear hown3 hgrow3
      have c0 : w3.cell? ⟨b, 0, none⟩ = some (.string ⟨l.toArray⟩) := cell_of hb3 0 _ rfl
      have c1 : w3.cell? ⟨b, 1, none⟩ = some (.int .i64 num) := cell_of hb3 1 _ rfl
      have c2 : w3.cell? ⟨b, 2, none⟩ = some (.int .i64 p) := cell_of hb3 2 _ rfl
      have c3 : w3.cell? ⟨b, 3, none⟩ = some tv := cell_of hb3 3 _ rfl
      have hf3 : w3.frozen? ⟨b, 3, none⟩ = false := by simp [World.frozen?, hb3]
      have hS3 : S w3 := by rw [hSd]; exact ⟨c0, c1, c2⟩
      have hS4 : S (w3.setCell ⟨b, 3, none⟩ (.slice (some ⟨g9, 0, none⟩) (ts.length + 1) c9)) := by rw [hSd]; exact ⟨(World.cell?_setCell_other w3 _ _ _ (by simp)).trans c0, (World.cell?_setCell_other w3 _ _ _ (by simp)).trans c1, (World.cell?_setCell_other w3 _ _ _ (by simp)).trans c2⟩
      refine hK.out _ _ hS3 (fun _ => ?_)
      clear hK K
      simp only [Act.put, List.setIfInBounds_toArray, List.set_cons_zero, List.set_cons_succ]
      refine wpAnyH_take (i := 28) (v := .pointer (some ⟨b, 0, none⟩)) rfl (by kernel_rfl) (by kernel_rfl) (by kernel_rfl) (fun _ _ _ h => h) (Or.inl ⟨by rfl, ?_⟩) hS3 ?_
      · intro w9 hSw; go_simp
      simp only [Act.put, List.setIfInBounds_toArray, List.set_cons_zero, List.set_cons_succ]
      refine wpAnyH_take (i := 29) (v := .pointer (some ⟨b, 3, none⟩)) rfl (by kernel_rfl) (by kernel_rfl) (by kernel_rfl) (fun _ _ _ h => h) (Or.inl ⟨by rfl, ?_⟩) hS3 ?_
      · intro w9 hSw; go_simp
      simp only [Act.put, List.setIfInBounds_toArray, List.set_cons_zero, List.set_cons_succ]
      refine wpAnyH_ready (rs := [30]) (by kernel_rfl) (by simp) ?_
      refine AllReadyH.cons (i := 30) rfl (fun K hK => ?_) AllReadyH.nil
      go_simp
      refine hK.out _ _ hS4 (fun _ => ?_)
      clear hK K
      refine wpAnyH_done (by kernel_rfl) ?_ _
      refine NoPanic.normal ?_
      have HR3 := hide2 hR3
      have HB3 := hide2 hB3
      clear hR3 hB3 hb3 c0 c1 c3 hS3 hS4
      obtain ⟨w4, hw4⟩ : ∃ w4, w3.setCell ⟨b, 3, none⟩ (.slice (some ⟨g9, 0, none⟩) (ts.length + 1) c9) = w4 := ⟨_, rfl⟩
      rw [hw4] at HR3 HB3 ⊢
      clear hw4
      have d2 : w4.cell? ⟨b, 2, none⟩ = some (.int .i64 p) := cell_of HR3.out.blk 2 _ rfl
      have f2 : w4.frozen? ⟨b, 2, none⟩ = false := by simp [World.frozen?, HR3.out.blk]
      go_wp2_with fail
      refine (skip_any l num (p + sz) b _ _ (by omega) hz (rd_at HR3.out (p + sz)).blk).mono ?_
      rintro e w' ⟨rfl, q, rfl⟩
      go_wp2
      refine bodyPost_end (results_none rfl _ _ _) rfl ?_
      exact ⟨rfl, _, rd_at (rd_drew (rd_at HR3.out (p + sz)) q) _, (below_drewN (HB3.out.setCell HR3.out.low _) q).setCell HR3.out.low _⟩
end Go.Proofs.YtjmgngocpokpgaaDoor
