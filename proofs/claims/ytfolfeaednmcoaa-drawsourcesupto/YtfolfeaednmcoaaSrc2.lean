/- Next of a source. -/
import Derived.Test.YtfolfeaednmcoaaSrc
namespace Go.Proofs.Ytfolfeaednmcoaa
open Go.RowKit
set_option linter.unusedVariables false
set_option linter.unusedSimpArgs false
theorem next_none (b base : Nat) (st : Int) (bs : List Nat) (w : World) (hD : DS w base b [] st bs) :
    Calls Try.prog 27 #[.pointer (some ⟨b, 0, none⟩)] w fun e w' => e = .returned (.int .u64 (nextSt st)) ∧ DS w' base b [] (nextSt st) bs ∧ Stp w w' bs bs := by
  obtain ⟨a, n, c, t, ws, h1, h2, h3, h4, h5, h6, rfl⟩ := hD
  have ht : t = 0 := by simpa using h3
  have hn : n = 0 := by simp at h4; omega
  subst ht
  subst hn
  refine (next_empty b a 0 c st w h1 (by decide)).mono fun e w' ⟨he, q, hw⟩ => ⟨he, ?_, ?_⟩
  · rw [hw]
    refine ⟨a, 0, c, 0, ws, ?_, ?_, h3, h4, h5, h6, rfl⟩
    · rw [block_setCell (show (w.drewN q).heap[b]? = _ from h1)]; rfl
    · exact own_off (t := 68) (by decide) (own_block (w' := w.drewN q) h2 (fun _ _ => rfl)) (show (w.drewN q).heap[b]? = _ from h1)
  · rw [hw]
    exact (Stp.of_below _ (below_drewN (Below.refl _ _) q)).trans (Stp.set b 2 _ (by simp))
set_option maxRecDepth 100000 in
set_option maxHeartbeats 1000000 in
theorem next_some (b base : Nat) (x : Int) (r : List Int) (st : Int) (bs : List Nat) (w : World) (hD : DS w base b (x :: r) st bs) (hbase : base ≤ w.heap.size) (hr : r.length + 1 ≤ 1048576) :
    Calls Try.prog 27 #[.pointer (some ⟨b, 0, none⟩)] w fun e w' => e = .returned (.int .u64 x) ∧ ∃ bs', DS w' base b r st bs' ∧ Stp w w' bs bs' := by
  obtain ⟨a, n, c, t, ws, h1, h2, h3, h4, h5, h6, rfl⟩ := hD
  have hwl := own_ul h2
  have hlen : t + (r.length + 1) = n := by simpa using h4
  have h3' : t ≤ r.length + 1 := by simpa using h3
  obtain ⟨g, rfl, hcx⟩ := own_at h2 t (by omega)
  have hx : ws.getD t 0 = x := by
    have := congrArg (fun l => l.getD 0 0) h5
    simpa [List.getD] using this.symm
  have hdr : ws.drop (t + 1) = r := by
    have := congrArg (List.drop 1) h5
    simpa [Nat.add_comm] using this.symm
  rw [hx] at hcx
  have hL := left_any b (some ⟨g, 0, none⟩) n c t st w h1 (by omega) (by omega)
  have H1 : Hid (w.heap[b]? = some (.cells #[.slice (some ⟨g, 0, none⟩) n c, .int .i64 t, .int .u64 st] 68 (0, 0))) := h1
  have H2 : Hid (w.ownsRow base 22 1 (.slice (some ⟨g, 0, none⟩) n c) n (uvals ws)) := h2
  have HW : Hid (base ≤ b ∧ ws.drop (t + 1) = r ∧ t + (r.length + 1) = n ∧ base ≤ w.heap.size) := ⟨h6, hdr, hlen, hbase⟩
  have c0 : w.cell? ⟨b, 0, none⟩ = some (.slice (some ⟨g, 0, none⟩) n c) := by simp [World.cell?, h1]
  have c1 : w.cell? ⟨b, 1, none⟩ = some (.int .i64 t) := by simp [World.cell?, h1]
  have z1 : w.frozen? ⟨b, 1, none⟩ = false := by simp [World.frozen?, h1]
  have t0 : (0 : Int) ≤ t := by omega
  have t1 : (t : Int) < n := by omega
  have hnb : n ≤ 2097152 := by omega
  obtain ⟨L, hLe⟩ : ∃ L : Int, (n : Int) - t = L := ⟨_, rfl⟩
  have hL0 : (L == 0) = false := beq_eq_false_iff_ne.2 (by omega)
  rw [hLe] at hL
  have HLe : Hid ((n : Int) - t = L) := hLe
  clear h1 h2 h3 h4 h5 h6 hwl hx hdr hbase hLe hlen h3'
  go_enter Try.func27, Try.ntmps27
  go_wp2_with fail
  refine hL.mono ?_
  rintro e w1 ⟨rfl, q, rfl⟩
  have d0 : (w.drewN q).cell? ⟨b, 0, none⟩ = _ := c0
  have d1 : (w.drewN q).cell? ⟨b, 1, none⟩ = _ := c1
  have dx : (w.drewN q).cell? ⟨g, t, none⟩ = _ := hcx
  have dz : (w.drewN q).frozen? ⟨b, 1, none⟩ = false := z1
  have G1 : Hid ((w.drewN q).heap[b]? = some (.cells #[.slice (some ⟨g, 0, none⟩) n c, .int .i64 t, .int .u64 st] 68 (0, 0))) := H1.out
  have G2 : Hid ((w.drewN q).ownsRow base 22 1 (.slice (some ⟨g, 0, none⟩) n c) n (uvals ws)) := own_block H2.out (fun _ _ => rfl)
  have G3 : Hid (Stp w (w.drewN q) (b :: (Value.slice (some ⟨g, 0, none⟩) n c).ownBlock.toList) (b :: (Value.slice (some ⟨g, 0, none⟩) n c).ownBlock.toList)) := Stp.of_below _ (below_drewN (Below.refl _ _) q)
  obtain ⟨w1, hw1⟩ : ∃ W, w.drewN q = W := ⟨_, rfl⟩
  rw [hw1] at d0 d1 dx dz G1 G2 G3 ⊢
  clear c0 c1 hcx z1 hL H1 H2 hw1
  go_wp2_with fail
  go_quiet (fail)
  go_wp2_with fail
  have J1 : ((w1.drewN nq).setCell ⟨b, 1, none⟩ (.int .i64 ((t : Int) + 1))).heap[b]? = some (.cells #[.slice (some ⟨g, 0, none⟩) n c, .int .i64 ((t + 1 : Nat) : Int), .int .u64 st] 68 (0, 0)) := by
    rw [block_setCell (show (w1.drewN nq).heap[b]? = _ from G1.out)]; rfl
  have J2 : ((w1.drewN nq).setCell ⟨b, 1, none⟩ (.int .i64 ((t : Int) + 1))).ownsRow base 22 1 (.slice (some ⟨g, 0, none⟩) n c) n (uvals ws) :=
    own_off (t := 68) (by decide) (own_block (w' := w1.drewN nq) G2.out (fun _ _ => rfl)) (show (w1.drewN nq).heap[b]? = _ from G1.out)
  have J3 : Stp w ((w1.drewN nq).setCell ⟨b, 1, none⟩ (.int .i64 ((t : Int) + 1))) (b :: (Value.slice (some ⟨g, 0, none⟩) n c).ownBlock.toList) (b :: (Value.slice (some ⟨g, 0, none⟩) n c).ownBlock.toList) :=
    (G3.out.trans (Stp.of_below _ (below_drewN (Below.refl _ _) nq))).trans (Stp.set b 1 _ (by simp))
  obtain ⟨w2, hw2⟩ : ∃ W, (w1.drewN nq).setCell ⟨b, 1, none⟩ (.int .i64 ((t : Int) + 1)) = W := ⟨_, rfl⟩
  rw [hw2] at J1 J2 J3 ⊢
  have K1 : Hid (w2.heap[b]? = some (.cells #[.slice (some ⟨g, 0, none⟩) n c, .int .i64 ((t + 1 : Nat) : Int), .int .u64 st] 68 (0, 0))) := J1
  have K2 : Hid (w2.ownsRow base 22 1 (.slice (some ⟨g, 0, none⟩) n c) n (uvals ws)) := J2
  have K3 : Hid (Stp w w2 (b :: (Value.slice (some ⟨g, 0, none⟩) n c).ownBlock.toList) (b :: (Value.slice (some ⟨g, 0, none⟩) n c).ownBlock.toList)) := J3
  have e1 : w2.cell? ⟨b, 1, none⟩ = some (.int .i64 ((t : Int) + 1)) := by simp [World.cell?, J1]
  have HLf : Hid (∀ W, W.heap[b]? = some (.cells #[.slice (some ⟨g, 0, none⟩) n c, .int .i64 ((t + 1 : Nat) : Int), .int .u64 st] 68 (0, 0)) → Calls Try.prog 29 #[.pointer (some ⟨b, 0, none⟩)] W fun e w' => e = .returned (.int .i64 ((n : Int) - (t + 1 : Nat))) ∧ ∃ q, w' = W.drewN q) := fun W h => left_any b (some ⟨g, 0, none⟩) n c (t + 1) st W h (by have := HW.out.2.2.1; omega) (by omega)
  clear J1 J2 J3 hw2 G1 G2 G3 d0 d1 dx dz
  obtain ⟨M, hM⟩ : ∃ M : Int, (n : Int) - (t + 1 : Nat) = M := ⟨_, rfl⟩
  rw [hM] at HLf
  have HM : Hid ((n : Int) - (t + 1 : Nat) = M) := hM
  clear hM
  go_quiet (exact Calls.quiet_of (HLf.out _ K1.out))
  have N1 : Hid ((w2.drewN nq).heap[b]? = some (.cells #[.slice (some ⟨g, 0, none⟩) n c, .int .i64 ((t + 1 : Nat) : Int), .int .u64 st] 68 (0, 0))) := K1.out
  have N2 : Hid ((w2.drewN nq).ownsRow base 22 1 (.slice (some ⟨g, 0, none⟩) n c) n (uvals ws)) := own_block K2.out (fun _ _ => rfl)
  have N3 : Hid (Stp w (w2.drewN nq) (b :: (Value.slice (some ⟨g, 0, none⟩) n c).ownBlock.toList) (b :: (Value.slice (some ⟨g, 0, none⟩) n c).ownBlock.toList)) := K3.out.trans (Stp.of_below _ (below_drewN (Below.refl _ _) nq))
  obtain ⟨w3, hw3⟩ : ∃ W, w2.drewN nq = W := ⟨_, rfl⟩
  rw [hw3] at N1 N2 N3 ⊢
  clear K1 K2 K3 HLf e1 hw3
  by_cases hmv : M ≤ (t : Int) + 1
  · have hre := rest_any b (some ⟨g, 0, none⟩) n c (t + 1) st ws base w3 N1.out N2.out (by have := HW.out.2.2.1; omega) (by omega)
    have hnr : n - (t + 1) = r.length := by have := HW.out.2.2.1; omega
    rw [HW.out.2.1, hnr] at hre
    obtain ⟨R, hR⟩ : ∃ R, r.length = R := ⟨_, rfl⟩
    have HRl : Hid (r.length = R) := hR
    rw [hR] at hre
    clear hnr hR
    go_wp2_with fail
    refine hre.mono ?_
    rintro e w4 ⟨a1, d1, rfl, hr4, hb4⟩
    have P1 : Hid (w4.heap[b]? = some (.cells #[.slice (some ⟨g, 0, none⟩) n c, .int .i64 ((t + 1 : Nat) : Int), .int .u64 st] 68 (0, 0))) := hb4.cells N1.out
    have y0 : w4.cell? ⟨b, 0, none⟩ = some (.slice (some ⟨g, 0, none⟩) n c) := by simp [World.cell?, P1.out]
    have y1 : w4.cell? ⟨b, 1, none⟩ = some (.int .i64 ((t + 1 : Nat) : Int)) := by simp [World.cell?, P1.out]
    have v0 : w4.frozen? ⟨b, 0, none⟩ = false := by simp [World.frozen?, P1.out]
    have v1 : w4.frozen? ⟨b, 1, none⟩ = false := by simp [World.frozen?, P1.out]
    have P2 : Hid (w4.ownsRow w3.heap.size 22 1 (.slice a1 R d1) R (uvals r)) := hr4
    have P3 : Hid (Stp w w4 (b :: (Value.slice (some ⟨g, 0, none⟩) n c).ownBlock.toList) (b :: (Value.slice (some ⟨g, 0, none⟩) n c).ownBlock.toList)) := N3.out.trans (Stp.of_below _ hb4)
    have P4 : Hid (w.heap.size ≤ w3.heap.size) := N3.out.size
    clear hr4 hb4 hre N1 N2 N3
    have nb : ∀ v, (w4.setCell ⟨b, 0, none⟩ v).cell? ⟨b, 1, none⟩ = some (.int .i64 ((t + 1 : Nat) : Int)) := fun v => by
      have := block_setCell P1.out 0 v
      simp [World.cell?, this]
    have nz : ∀ v, (w4.setCell ⟨b, 0, none⟩ v).frozen? ⟨b, 1, none⟩ = false := fun v => by
      have := block_setCell P1.out 0 v
      simp [World.frozen?, this]
    go_wp2_with fail
    go_ret
    obtain ⟨x1, x2, x3, x4⟩ := HW.out
    have q1 := block_setCell P1.out 0 (.slice a1 R d1)
    have q2 := block_setCell q1 1 (.int .i64 0)
    refine ⟨rfl, b :: (Value.slice a1 R d1).ownBlock.toList, ⟨a1, R, d1, 0, r, by rw [q2]; rfl, ?_, Nat.zero_le _, by rw [HRl.out, Nat.zero_add], rfl, x1, rfl⟩, ?_⟩
    · exact own_base (own_off (t := 68) (by decide) (own_off (t := 68) (by decide) P2.out P1.out) q1) (by have := P4.out; omega)
    · have s := (P3.out.trans (Stp.set b 0 (.slice a1 R d1) (by simp))).trans (Stp.set b 1 (.int .i64 0) (by simp))
      refine ⟨s.os, s.tape, s.output, s.size, s.old, fun k hk => ?_⟩
      rcases List.mem_cons.1 hk with rfl | hk
      · exact .inl (by simp)
      · have := (P2.out.lt k (by simpa using hk)).1
        have := P4.out
        exact .inr (by omega)
  · go_wp2_with fail
    go_ret
    obtain ⟨x1, x2, x3, x4⟩ := HW.out
    refine ⟨rfl, _, ⟨some ⟨g, 0, none⟩, n, c, t + 1, ws, N1.out, N2.out, ?_, by omega, x2.symm, x1, rfl⟩, N3.out⟩
    have := HM.out
    omega
end Go.Proofs.Ytfolfeaednmcoaa
