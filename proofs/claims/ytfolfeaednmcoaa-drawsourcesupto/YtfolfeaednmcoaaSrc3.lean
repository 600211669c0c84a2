/- Copy of a source; Next of the document's. -/
import Derived.Test.YtfolfeaednmcoaaSrc2
namespace Go.Proofs.Ytfolfeaednmcoaa
open Go.RowKit
set_option linter.unusedVariables false
set_option linter.unusedSimpArgs false
theorem DS.made {w w1 : World} {a1 : Option Addr} {R d1 : Nat} {st : Int} {r : List Int} (hb : Below w.heap.size w w1) (hr : w1.ownsRow w.heap.size 22 1 (.slice a1 R d1) R (uvals r)) (hR : r.length = R) :
    DS (w1.alloc (.cells #[.slice a1 R d1, .int .i64 0, .int .u64 st] 68 (0, 0))) w.heap.size w1.heap.size r st (w1.heap.size :: (Value.slice a1 R d1).ownBlock.toList) :=
  ⟨a1, R, d1, 0, r, Go.heap_alloc_new w1 _, own_block hr (fun k hk => Below.heap_alloc w1 _ k (hr.lt k hk).2), Nat.zero_le _, by omega, rfl, hb.size, rfl⟩
theorem copy_any (b base : Nat) (rest : List Int) (st : Int) (bs : List Nat) (w : World) (hD : DS w base b rest st bs) (hr : rest.length ≤ 1048576) :
    Calls Try.prog 25 #[.pointer (some ⟨b, 0, none⟩)] w fun e w' => ∃ b' bs', e = .returned (.pointer (some ⟨b', 0, none⟩)) ∧ DS w' w.heap.size b' rest st bs' ∧ Below w.heap.size w w' := by
  obtain ⟨a, n, c, t, ws, h1, h2, h3, h4, h5, h6, rfl⟩ := hD
  have hB : Below w.heap.size w w.drew := (Below.refl _ _).drew
  have c2 : w.cell? ⟨b, 2, none⟩ = some (.int .u64 st) := by simp [World.cell?, h1]
  have hre := rest_any b a n c t st ws base w.drew h1 (own_block h2 (fun _ _ => rfl)) (by omega) (by omega)
  have hnr : n - t = rest.length := by omega
  rw [← h5, hnr] at hre
  obtain ⟨R, hR⟩ : ∃ R, rest.length = R := ⟨_, rfl⟩
  have HR : Hid (rest.length = R) := hR
  rw [hR] at hre
  have HC : Hid (Calls Try.prog 35 #[.pointer (some ⟨b, 0, none⟩)] w.drew fun e w' => ∃ a' c', e = .returned (.slice a' R c') ∧ w'.ownsRow w.heap.size 22 1 (.slice a' R c') R (uvals rest) ∧ Below w.heap.size w w') := hre.mono fun e w' ⟨a', c', he, hr, hb⟩ => ⟨a', c', he, hr, hB.trans hb⟩
  clear h1 h2 h3 h4 h5 h6 hre hnr hR
  go_enter Try.func25, Try.ntmps25
  go_wp2_with fail
  go_region_held3 (fun w' => w'.cell? ⟨b, 2, none⟩ = some (.int .u64 st)) (go_keep) (first | (go_at_call 35; refine HC.out.mono ?_; rintro e w' ⟨a1, d1, rfl, hr1, hb1⟩; have x0 := cell_of_below hb1 c2))
  go_wp2
  go_ret
  exact ⟨_, _, rfl, DS.made hb1 hr1 HR.out, hb1.alloc hb1.size _⟩
theorem rnext_none (b base : Nat) (st : Int) (bs : List Nat) (w : World) (hD : RS w base b [] st bs) :
    Calls Try.prog 28 #[.pointer (some ⟨b, 0, none⟩)] w fun e w' => e = .returned (.int .u64 (nextSt st)) ∧ RS w' base b [] (nextSt st) bs ∧ Stp w w' bs bs := by
  obtain ⟨a, c, h1, h2, h6, rfl⟩ := hD
  have c0 : w.cell? ⟨b, 0, none⟩ = some (.slice a 0 c) := by simp [World.cell?, h1]
  have c1 : w.cell? ⟨b, 1, none⟩ = some (.int .u64 st) := by simp [World.cell?, h1]
  have z1 : w.frozen? ⟨b, 1, none⟩ = false := by simp [World.frozen?, h1]
  have H1 : Hid (w.heap[b]? = some (.cells #[.slice a 0 c, .int .u64 st] 50 (0, 0))) := h1
  have H2 : Hid (w.ownsRow base 22 1 (.slice a 0 c) 0 (uvals [])) := h2
  have H3 : Hid (base ≤ b) := h6
  clear h1 h2 h6
  go_enter Try.func28, Try.ntmps28
  go_wp2_with fail
  go_ret
  refine ⟨rfl, ⟨a, c, ?_, ?_, H3.out, rfl⟩, Stp.set b 1 _ (by simp)⟩
  · rw [block_setCell H1.out]; rfl
  · exact own_off (t := 50) (by decide) H2.out H1.out
theorem fz_of {w : World} {b : Nat} {cs : Array Value} {t : TypeId} (h : w.heap[b]? = some (.cells cs t (0, 0))) (o : Nat) : w.frozen? ⟨b, o, none⟩ = false := by simp [World.frozen?, h]
theorem rnext_some (b base : Nat) (x : Int) (r : List Int) (st : Int) (bs : List Nat) (w : World) (hbase : base ≤ w.heap.size) (hD : RS w base b (x :: r) st bs) (hr : r.length + 1 ≤ 1048576) :
    Calls Try.prog 28 #[.pointer (some ⟨b, 0, none⟩)] w fun e w' => e = .returned (.int .u64 x) ∧ ∃ bs', RS w' base b r st bs' ∧ Stp w w' bs bs' := by
  obtain ⟨a, c, h1, h2, h6, rfl⟩ := hD
  obtain ⟨i0, hi, hz0, hz1, hz2⟩ := info_parts Try.info22
  obtain ⟨g, rfl, hx⟩ := own_at h2 0 (by simp)
  obtain ⟨hnc, hcm⟩ := own_cap h2
  unfold maxLen at hcm
  simp only [List.length_cons] at *
  obtain ⟨R, hR⟩ : ∃ R, r.length = R := ⟨_, rfl⟩
  have HR : Hid (r.length = R) := hR
  have c0 : w.cell? ⟨b, 0, none⟩ = some (.slice (some ⟨g, 0, none⟩) (R + 1) c) := by simp [World.cell?, h1, hR]
  have z0 : w.frozen? ⟨b, 0, none⟩ = false := by simp [World.frozen?, h1]
  have hx' : w.cell? ⟨g, 0, none⟩ = some (.int .u64 x) := by simpa using hx
  rw [hR] at h1 h2 hr hnc
  have H1 : Hid (w.heap[b]? = some (.cells #[.slice (some ⟨g, 0, none⟩) (R + 1) c, .int .u64 st] 50 (0, 0))) := h1
  have H2 : Hid (w.ownsRow base 22 1 (.slice (some ⟨g, 0, none⟩) (R + 1) c) (R + 1) (uvals (x :: r))) := h2
  have H3 : Hid (base ≤ b) := h6
  have HBs : Hid (base ≤ w.heap.size) := hbase
  have r0 : (0 : Int) < R + 1 := by omega
  have k1 : (1 : Int) ≤ c := by omega
  have ca : (w.alloc (.cells #[] 22 (0, 0))).cell? ⟨b, 0, none⟩ = some (.slice (some ⟨g, 0, none⟩) (R + 1) c) := cell_of_below ((Below.refl _ _).alloc (Nat.le_refl _) _) c0
  have q1 : Hid ((uvals r).length = R * 1) := (by rw [uvals_length, HR.out, Nat.mul_one] : (uvals r).length = R * 1)
  have q2 : Hid (0 + R ≤ maxLen) := (by unfold maxLen; omega : 0 + R ≤ maxLen)
  have q3 : Hid ((0 + R) * 8 ≤ 140737488355328) := (by omega : (0 + R) * 8 ≤ 140737488355328)
  have q4 : Hid (w.heap.size ≤ (w.alloc (.cells #[] 22 (0, 0))).heap.size) := (by simp : w.heap.size ≤ (w.alloc (.cells #[] 22 (0, 0))).heap.size)
  have HU0 : Ul w (some ⟨g, 1, none⟩) r := by
    by_cases h0 : r = []
    · exact .inl h0
    · refine .inr ⟨g, 1, rfl, fun j hj => ?_⟩
      obtain ⟨g', e, hc⟩ := own_at H2.out (j + 1) (by have := HR.out; omega)
      cases e
      rw [Nat.add_comm 1 j, hc]
      simp [List.getD]
  have HF : Hid (∀ (w1 : World) (a' : Option Addr) (c' : Nat), w1.ownsRow w.heap.size 22 1 (.slice a' R c') R (uvals r) → Below w.heap.size w w1 → w1.heap[b]? = some (.cells #[.slice (some ⟨g, 0, none⟩) (R + 1) c, .int .u64 st] 50 (0, 0)) →
      Ending.returned (.int .u64 x) = .returned (.int .u64 x) ∧ ∃ bs', RS (w1.setCell ⟨b, 0, none⟩ (.slice a' R c')) base b r st bs' ∧ Stp w (w1.setCell ⟨b, 0, none⟩ (.slice a' R c')) (b :: (Value.slice (some ⟨g, 0, none⟩) (R + 1) c).ownBlock.toList) bs') := fun w1 a' c' hr hb hp => by
    have hl := HR.out
    subst hl
    refine ⟨rfl, b :: (Value.slice a' r.length c').ownBlock.toList, ⟨a', c', ?_, ?_, H3.out, rfl⟩, ?_⟩
    · rw [block_setCell hp]; rfl
    · exact own_base (own_off (t := 50) (by decide) hr hp) HBs.out
    · have s := (Stp.of_below (b :: (Value.slice (some ⟨g, 0, none⟩) (r.length + 1) c).ownBlock.toList) hb).trans (Stp.set b 0 (.slice a' r.length c') (by simp))
      refine ⟨s.os, s.tape, s.output, s.size, s.old, fun k hk => ?_⟩
      rcases List.mem_cons.1 hk with rfl | hk
      · exact .inl (by simp)
      · exact .inr (hr.lt k (by simpa using hk)).1
  clear h1 h2 h6 hx hR
  by_cases hc1 : c = 1
  · subst hc1
    have hR0 : R = 0 := by omega
    have HU : Hid (∀ j u, (uvals r)[j]? = some u → (w.alloc (.cells #[] 22 (0, 0))).cell? ((⟨g, 0, none⟩ : Addr).add j) = some u) := ul_news (.inl (List.length_eq_zero_iff.1 (HR.out.trans hR0)))
    subst hR0
    clear HU0
    go_enter Try.func28, Try.ntmps28
    go_wp2_with (at_builtin; refine wpList_append_own _ rfl (.tmp 19) (.tmp 24) 48 rfl w.heap.size 22 i0 (.int .u64 0) 1 8 Try.underlying48 hi hz0 hz1 hz2 rfl (by decide) _ 0 [] rfl (own_empty w) ⟨g, 0, none⟩ 0 0 (uvals r) rfl q1.out HU.out (uvals_one _) q2.out q3.out q4.out ?_; intro v w1 hown hgrow _; obtain ⟨a', c', hv, HR1, HB1⟩ := empty_grown (n := 0) (zs := r) hown hgrow; subst hv; have P1 : Hid (w1.heap[b]? = some (.cells #[.slice (some ⟨g, 0, none⟩) (0 + 1) 1, .int .u64 st] 50 (0, 0))) := HB1.out.cells H1.out; have y0 := cell_of_below HB1.out c0; have y1 := fz_of P1.out 0; clear hown hgrow)
    go_ret
    obtain ⟨_, bs', s1, s2⟩ := HF.out _ _ _ HR1.out HB1.out P1.out
    exact ⟨rfl, bs', s1, by rw [HR.out]; exact s2⟩
  · have HU : Hid (∀ j u, (uvals r)[j]? = some u → (w.alloc (.cells #[] 22 (0, 0))).cell? ((⟨g, 1, none⟩ : Addr).add j) = some u) := ul_news (HU0.below ((Below.refl _ _).alloc (Nat.le_refl _) _))
    clear HU0
    go_enter Try.func28, Try.ntmps28
    go_wp2_with (at_builtin; refine wpList_append_own _ rfl (.tmp 19) (.tmp 24) 48 rfl w.heap.size 22 i0 (.int .u64 0) 1 8 Try.underlying48 hi hz0 hz1 hz2 rfl (by decide) _ 0 [] rfl (own_empty w) ⟨g, 1, none⟩ R (c - 1) (uvals r) rfl q1.out HU.out (uvals_one _) q2.out q3.out q4.out ?_; intro v w1 hown hgrow _; obtain ⟨a', c', hv, HR1, HB1⟩ := empty_grown hown hgrow; subst hv; have P1 : Hid (w1.heap[b]? = some (.cells #[.slice (some ⟨g, 0, none⟩) (R + 1) c, .int .u64 st] 50 (0, 0))) := HB1.out.cells H1.out; have y0 := cell_of_below HB1.out c0; have y1 := fz_of P1.out 0; clear hown hgrow)
    go_ret
    obtain ⟨_, bs', s1, s2⟩ := HF.out _ _ _ HR1.out HB1.out P1.out
    exact ⟨rfl, bs', s1, by rw [HR.out]; exact s2⟩
end Go.Proofs.Ytfolfeaednmcoaa
