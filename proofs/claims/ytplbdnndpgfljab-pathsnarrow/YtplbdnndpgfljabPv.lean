/-
  PathsNarrow: the walk.
-/
import Derived.Test.YtplbdnndpgfljabPu
import Derived.Deep.RegionHeld3
namespace Go.Proofs.Ytplbdnndpgfljab
open Go.RowKit
set_option linter.unusedVariables false
set_option linter.unusedSimpArgs false
set_option maxRecDepth 100000
set_option maxHeartbeats 8000000 in
theorem narrow_law (w : World) (a : Option Addr) (n cn : Nat) (ds : List (List UInt8)) (s : List UInt8) (hn : ds.length = n) (hl : n ≤ 8796093021952) (hS : Strs w a ds) (hs : ∀ d ∈ ds, d.length ≤ 2 ^ 61) (h2 : s.length ≤ 2 ^ 61) (hbare : a = none → cn = 0) :
    Calls Try.prog 4 #[.slice a n cn, .string ⟨s.toArray⟩] w fun e w' => e = .returned (.bool true) ∧ Below w.heap.size w w' := by
  have BS := best_spec ds s
  rw [hn] at BS
  have hbest : Hid (∀ (w : World) (lo : Option Addr) (lc : Nat), Strs w lo ds → Calls Try.prog 9 #[.slice lo n lc, .string ⟨s.toArray⟩] w fun e w' => e = .returned (.tuple #[.int .i64 (if hostB s then (bstS (fldF s) ds n).1 else 0), .bool (hostB s && !((bstS (fldF s) ds n).2.1 == 3))]) ∧ Below w.heap.size w w') := hide2 (fun w lo lc hL => best_any w lo n lc ds s hn (by omega) hL hs h2)
  generalize (if hostB s then (bstS (fldF s) ds n).1 else 0) = r at hbest BS
  generalize (hostB s && !((bstS (fldF s) ds n).2.1 == 3)) = b at hbest BS
  have hhost : Hid (∀ (w : World) (k : Nat) (d : List UInt8), ds[k]? = some d → Calls Try.prog 10 #[.string ⟨d.toArray⟩, .string ⟨s.toArray⟩] w fun e w' => e = .returned (.bool (hostM d s)) ∧ Below w.heap.size w w') := hide2 (fun w k d hd => host_any d s w (hs d (List.mem_of_getElem? hd)) h2)
  have hord : Hid (∀ (w : World) (k i : Nat) (d di : List UInt8), ds[k]? = some d → ds[i]? = some di → Calls Try.prog 6 #[.string ⟨d.toArray⟩, .string ⟨di.toArray⟩] w fun e w' => e = .returned (.int .i64 (ordM d di)) ∧ Below w.heap.size w w') := hide2 (fun w k i d di hd hdi => order_any d di w (by have := hs d (List.mem_of_getElem? hd); omega) (by have := hs di (List.mem_of_getElem? hdi); omega))
  have hcov : Hid (∀ (w : World) (k i : Nat) (d di : List UInt8), ds[k]? = some d → ds[i]? = some di → Calls Try.prog 8 #[.string ⟨di.toArray⟩, .string ⟨d.toArray⟩] w fun e w' => e = .returned (.bool (covM di d)) ∧ Below w.heap.size w w') := hide2 (fun w k i d di hd hdi => coversHost_any di d w (by have := hs di (List.mem_of_getElem? hdi); omega) (by have := hs d (List.mem_of_getElem? hd); omega))
  have HS := hide2 hS
  have HN := hide2 hn
  have HBR := hide2 hbare
  have HBS := hide2 BS
  clear BS hS hn hbare hs
  obtain ⟨i9, hi9, hz90, hz91, hz92⟩ := info_parts Try.info9
  go_enter Try.func4, Try.ntmps4
  go_wp2_with fail
  refine (awake_any _).mono ?_; rintro e w1 ⟨rfl, hb⟩
  have HB := hide2 hb
  have HS1 := hide2 (HS.out.below hb)
  clear hb HS
  by_cases hbig : 200 < n
  · have hbig' : (200 : Int) < n := by omega
    go_wp2
    go_ret
    exact ⟨rfl, HB.out⟩
  · have hbig' : ¬ (200 : Int) < n := by omega
    have hsrc0 := HS1.out.below ((Below.refl _ w1).alloc (Nat.le_refl _) (.cells #[] 9))
    have HSR := hide2 (hsrc0.src HN.out HBR.out)
    clear hsrc0
    go_wp2_with (at_builtin; refine wpList_append_src _ rfl (.tmp 16) (.tmp 17) 27 rfl w1.heap.size 9 i9 (.string ⟨#[]⟩) 1 16 Try.underlying27 hi9 hz90 hz91 hz92 rfl (by decide) _ 0 [] rfl (own_empty w1 9 1) a n cn (strV ds) rfl HSR.out (strV_one _) (by unfold maxLen; omega) (by omega) (by simp) ?_; intro v1 w2 hown1 hgrow1; rw [Nat.zero_add, List.nil_append] at hown1; have HO := hide2 hown1; have HB1 := hide2 (((Below.refl _ w1).alloc (Nat.le_refl _) _).grown hgrow1 (by simp) (fun k h => by cases h; exact Nat.le_refl _)); clear hown1 hgrow1)
    obtain ⟨lo, lc, rfl, hls⟩ := own_strs HN.out HO.out
    have HB2 := hide2 (below_two HB.out HB1.out)
    have HS2 := hide2 (HS1.out.below HB1.out)
    refine (hbest.out w2 lo lc hls).mono ?_
    rintro e w3 ⟨rfl, hb⟩
    have HB3 := hide2 (below_two HB2.out hb)
    have HS3 := hide2 (HS2.out.below hb)
    clear hb hls HO HB1 HB2 HS2 HSR HS1 HB
    rcases HBS.out with ⟨rfl, rfl, hno⟩ | ⟨i, di, hi, rfl, rfl, hti, hall⟩
    · have HNO := hide2 hno
      clear hno HBS
      go_wp2_with fail
      go_loopw [7] (fun t wr => ∃ (k : Nat), t = .int .i64 k ∧ k ≤ n ∧ Hid (Below w3.heap.size w3 wr)) (fun t _ => n - (intOf t).toNat)
      case atStart => exact ⟨0, rfl, by omega, Below.refl _ _⟩
      case round =>
        obtain ⟨k, rfl, hk, HBR2⟩ := hrel
        have k0 : (0 : Int) ≤ k := by omega
        by_cases h3 : k < n
        · have h3' : (k : Int) < n := by omega
          rcases hki : ds[k]? with _ | d
          · have := List.getElem?_eq_none_iff.1 hki; have := HN.out; omega
          obtain ⟨x, hx, hcx⟩ := (HS3.out.below HBR2.out).at_ hki
          subst hx
          have hC := fun w => hhost.out w k d hki
          rw [HNO.out d (List.mem_of_getElem? hki)] at hC
          clear hki
          go_wp2_with fail
          refine (hC _).mono ?_
          rintro e w4 ⟨rfl, hb⟩
          have HB4 := hide2 (below_two HBR2.out hb)
          clear hb
          go_wp2
          go_roundw
          case rel => exact ⟨k + 1, by go_num, by omega, HB4⟩
          case measure => simp [intOf]; omega
        · have h3' : ¬ (k : Int) < n := by omega
          go_wp2
          go_ret
          exact ⟨rfl, below_two HB3.out HBR2.out⟩
    · have HALL := hide2 hall
      have HI := hide2 hi
      have hin : i < n := by have := (List.getElem?_eq_some_iff.1 hi).1; have := HN.out; omega
      have hin' : (i : Int) < n := by omega
      have i0 : (0 : Int) ≤ i := by omega
      have dn : decide (n ≤ i) = false := decide_eq_false (by omega)
      have dz : decide ((i : Int) < 0) = false := decide_eq_false (by omega)
      obtain ⟨x, hx, hcx⟩ := HS3.out.at_ hi
      subst hx
      have hC := fun w => hhost.out w i di hi
      rw [hti] at hC
      clear hall hi HBS
      go_wp2_with fail
      refine (hC _).mono ?_
      rintro e w4 ⟨rfl, hb⟩
      have HB4 := hide2 (below_two HB3.out hb)
      have HS4 := hide2 (HS3.out.below hb)
      clear hb hcx hC hbest HS3 HB3
      go_wp2_with fail
      go_loopw [8] (fun t wr => ∃ (k : Nat), t = .int .i64 k ∧ k ≤ n ∧ Hid (Below w4.heap.size w4 wr)) (fun t _ => n - (intOf t).toNat)
      case atStart => exact ⟨0, rfl, by omega, Below.refl _ _⟩
      case round =>
        obtain ⟨k, rfl, hk, HBR2⟩ := hrel
        have k0 : (0 : Int) ≤ k := by omega
        by_cases h3 : k < n
        · have h3' : (k : Int) < n := by omega
          rcases hki : ds[k]? with _ | d
          · have := List.getElem?_eq_none_iff.1 hki; have := HN.out; omega
          have HSk := hide2 (HS4.out.below HBR2.out)
          obtain ⟨x', hx, hcx⟩ := HSk.out.at_ hki
          cases hx
          have hC := fun w => hhost.out w k d hki
          have HKI := hide2 hki
          clear hki
          cases hm : hostM d s with
          | false =>
            rw [hm] at hC
            clear hm
            go_wp2_with fail
            refine (hC _).mono ?_
            rintro e w5 ⟨rfl, hb⟩
            have HB5 := hide2 (below_two HBR2.out hb)
            clear hb
            go_wp2
            go_roundw
            case rel => exact ⟨k + 1, by go_num, by omega, HB5⟩
            case measure => simp [intOf]; omega
          | true =>
            rw [hm] at hC
            have HA := hide2 (HALL.out k d HKI.out hm)
            clear hm
            have hO := fun w => hord.out w k i d di HKI.out HI.out
            have hV := fun w => hcov.out w k i d di HKI.out HI.out
            have HCO : Hid (covM di d = true → ordM d di ≤ 0) := hide2 (fun h => cov_order (pat_of di) (pat_of d) h)
            generalize ordM d di = o at *
            generalize covM di d = c at *
            go_wp2_with fail
            refine (hC _).mono ?_
            rintro e w5 ⟨rfl, hb⟩
            have HB5 := hide2 (below_two HBR2.out hb)
            have HS5 := hide2 (HSk.out.below hb)
            clear hb hcx hC HSk HBR2
            obtain ⟨y, hy, hck⟩ := HS5.out.at_ HKI.out
            cases hy
            obtain ⟨y, hy, hci⟩ := HS5.out.at_ HI.out
            cases hy
            go_wp2_with fail
            go_region_held3 (fun w' => w'.cell? (x.add k) = some (.string ⟨d.toArray⟩) ∧ w'.cell? (x.add i) = some (.string ⟨di.toArray⟩)) (go_keep) (first | (go_at_call 6; refine (hO _).mono ?_; rintro e w6 ⟨rfl, hb6⟩; have e1 := cell_of_below hb6 hck; have e2 := cell_of_below hb6 hci))
            have HB6 := hide2 (below_two HB5.out (⟨hb6.os, hb6.tape, hb6.output, hb6.size, hb6.block⟩ : Below w5.heap.size w5 w6))
            clear hb6 hck hci hO HS5 HB5
            have hck := e1
            have hci := e2
            clear e1 e2
            obtain ⟨o1, o2⟩ := HA.out
            by_cases hz : o = 0
            · subst hz
              have hki : ¬ k < i := fun h => absurd (o2 h) (by omega)
              have hki' : ¬ (k : Int) < i := by omega
              have d1 : decide ((k : Int) < i) = false := decide_eq_false hki'
              have d2 : decide (k < i) = false := decide_eq_false hki
              clear o1 o2 HA HCO
              cases c with
              | false =>
                go_wp2_with fail
                refine wp_region_noPanic ?_
                refine wp_region_held_drew (S := (fun w' => w'.cell? (x.add k) = some (.string ⟨d.toArray⟩) ∧ w'.cell? (x.add i) = some (.string ⟨di.toArray⟩))) (by kernel_rfl) (by go_keep) (fun hS1 => ?_)
                refine wpAnyH_take (i := 0) (oi := { dst := some 78, op := Op.move (Operand.tmp 9), type := 3, pos := "outright.go:87", after := #[], guard := none }) (v := .int .i64 0) rfl (by kernel_rfl) (by kernel_rfl) (by kernel_rfl) (fun _ _ _ h => h) (Or.inl ⟨by rfl, ?_⟩) hS1 ?_
                · intro w9 hSw; (try dsimp only at hSw); obtain ⟨s0, s1⟩ := hSw; go_simp
                try simp only [Act.put, List.setIfInBounds_toArray, List.set_cons_zero, List.set_cons_succ]
                refine wpAnyH_take (i := 1) (oi := { dst := some 79, op := Op.binOp BinOp.lss 3 (Operand.tmp 78) (Operand.const (Value.int IntKind.i64 0)) 3, type := 4, pos := "outright.go:87", after := #[{ on := 0, ground := Ground.data }], guard := none }) (v := .bool false) rfl (by kernel_rfl) (by kernel_rfl) (by kernel_rfl) (fun _ _ _ h => h) (Or.inl ⟨by rfl, ?_⟩) hS1 ?_
                · intro w9 hSw; (try dsimp only at hSw); obtain ⟨s0, s1⟩ := hSw; go_simp
                try simp only [Act.put, List.setIfInBounds_toArray, List.set_cons_zero, List.set_cons_succ]
                refine wpAnyH_take (i := 2) (oi := { dst := some 80, op := Op.move (Operand.tmp 79), type := 4, pos := "outright.go:87", after := #[{ on := 1, ground := Ground.data }], guard := none }) (v := .bool false) rfl (by kernel_rfl) (by kernel_rfl) (by kernel_rfl) (fun _ _ _ h => h) (Or.inl ⟨by rfl, ?_⟩) hS1 ?_
                · intro w9 hSw; (try dsimp only at hSw); obtain ⟨s0, s1⟩ := hSw; go_simp
                try simp only [Act.put, List.setIfInBounds_toArray, List.set_cons_zero, List.set_cons_succ]
                refine wpAnyH_take (i := 3) (oi := { dst := some 81, op := Op.move (Operand.tmp 9), type := 3, pos := "outright.go:87", after := #[{ on := 2, ground := Ground.guard }], guard := some (2, false) }) (v := .int .i64 0) rfl (by kernel_rfl) (by kernel_rfl) (by kernel_rfl) (fun _ _ _ h => h) (Or.inl ⟨by rfl, ?_⟩) hS1 ?_
                · intro w9 hSw; (try dsimp only at hSw); obtain ⟨s0, s1⟩ := hSw; go_simp
                try simp only [Act.put, List.setIfInBounds_toArray, List.set_cons_zero, List.set_cons_succ]
                refine wpAnyH_take (i := 4) (oi := { dst := some 82, op := Op.binOp BinOp.eql 3 (Operand.tmp 81) (Operand.const (Value.int IntKind.i64 0)) 3, type := 4, pos := "outright.go:87", after := #[{ on := 3, ground := Ground.data }, { on := 2, ground := Ground.guard }], guard := some (2, false) }) (v := .bool true) rfl (by kernel_rfl) (by kernel_rfl) (by kernel_rfl) (fun _ _ _ h => h) (Or.inl ⟨by rfl, ?_⟩) hS1 ?_
                · intro w9 hSw; (try dsimp only at hSw); obtain ⟨s0, s1⟩ := hSw; go_simp
                try simp only [Act.put, List.setIfInBounds_toArray, List.set_cons_zero, List.set_cons_succ]
                refine wpAnyH_take (i := 5) (oi := { dst := some 83, op := Op.move (Operand.tmp 82), type := 4, pos := "outright.go:87", after := #[{ on := 4, ground := Ground.data }, { on := 2, ground := Ground.chain }, { on := 2, ground := Ground.guard }], guard := some (2, false) }) (v := .bool true) rfl (by kernel_rfl) (by kernel_rfl) (by kernel_rfl) (fun _ _ _ h => h) (Or.inl ⟨by rfl, ?_⟩) hS1 ?_
                · intro w9 hSw; (try dsimp only at hSw); obtain ⟨s0, s1⟩ := hSw; go_simp
                try simp only [Act.put, List.setIfInBounds_toArray, List.set_cons_zero, List.set_cons_succ]
                refine wpAnyH_take (i := 6) (oi := { dst := some 84, op := Op.move (Operand.tmp 8), type := 3, pos := "outright.go:87", after := #[{ on := 5, ground := Ground.guard }], guard := some (5, true) }) (v := .int .i64 k) rfl (by kernel_rfl) (by kernel_rfl) (by kernel_rfl) (fun _ _ _ h => h) (Or.inl ⟨by rfl, ?_⟩) hS1 ?_
                · intro w9 hSw; (try dsimp only at hSw); obtain ⟨s0, s1⟩ := hSw; go_simp
                try simp only [Act.put, List.setIfInBounds_toArray, List.set_cons_zero, List.set_cons_succ]
                refine wpAnyH_take (i := 7) (oi := { dst := some 85, op := Op.move (Operand.tmp 5), type := 3, pos := "outright.go:87", after := #[{ on := 5, ground := Ground.guard }], guard := some (5, true) }) (v := .int .i64 i) rfl (by kernel_rfl) (by kernel_rfl) (by kernel_rfl) (fun _ _ _ h => h) (Or.inl ⟨by rfl, ?_⟩) hS1 ?_
                · intro w9 hSw; (try dsimp only at hSw); obtain ⟨s0, s1⟩ := hSw; go_simp
                try simp only [Act.put, List.setIfInBounds_toArray, List.set_cons_zero, List.set_cons_succ]
                refine wpAnyH_take (i := 8) (oi := { dst := some 86, op := Op.binOp BinOp.lss 3 (Operand.tmp 84) (Operand.tmp 85) 3, type := 4, pos := "outright.go:87", after := #[{ on := 6, ground := Ground.data }, { on := 7, ground := Ground.data }, { on := 5, ground := Ground.guard }], guard := some (5, true) }) (v := .bool false) rfl (by kernel_rfl) (by kernel_rfl) (by kernel_rfl) (fun _ _ _ h => h) (Or.inl ⟨by rfl, ?_⟩) hS1 ?_
                · intro w9 hSw; (try dsimp only at hSw); obtain ⟨s0, s1⟩ := hSw; go_simp
                try simp only [Act.put, List.setIfInBounds_toArray, List.set_cons_zero, List.set_cons_succ]
                refine wpAnyH_take (i := 9) (oi := { dst := some 87, op := Op.pick (Operand.tmp 83) (Operand.tmp 86) (Operand.const (Value.bool false)), type := 4, pos := "outright.go:87", after := #[{ on := 5, ground := Ground.data }, { on := 8, ground := Ground.data }, { on := 2, ground := Ground.guard }], guard := some (2, false) }) (v := .bool false) rfl (by kernel_rfl) (by kernel_rfl) (by kernel_rfl) (fun _ _ _ h => h) (Or.inl ⟨by rfl, ?_⟩) hS1 ?_
                · intro w9 hSw; (try dsimp only at hSw); obtain ⟨s0, s1⟩ := hSw; go_simp
                try simp only [Act.put, List.setIfInBounds_toArray, List.set_cons_zero, List.set_cons_succ]
                refine wpAnyH_take (i := 10) (oi := { dst := some 88, op := Op.pick (Operand.tmp 80) (Operand.const (Value.bool true)) (Operand.tmp 87), type := 4, pos := "outright.go:87", after := #[{ on := 2, ground := Ground.data }, { on := 9, ground := Ground.data }], guard := none }) (v := .bool false) rfl (by kernel_rfl) (by kernel_rfl) (by kernel_rfl) (fun _ _ _ h => h) (Or.inl ⟨by rfl, ?_⟩) hS1 ?_
                · intro w9 hSw; (try dsimp only at hSw); obtain ⟨s0, s1⟩ := hSw; go_simp
                try simp only [Act.put, List.setIfInBounds_toArray, List.set_cons_zero, List.set_cons_succ]
                refine wpAnyH_take (i := 11) (oi := { dst := some 89, op := Op.move (Operand.tmp 88), type := 4, pos := "outright.go:87", after := #[{ on := 10, ground := Ground.data }, { on := 5, ground := Ground.chain }], guard := none }) (v := .bool false) rfl (by kernel_rfl) (by kernel_rfl) (by kernel_rfl) (fun _ _ _ h => h) (Or.inl ⟨by rfl, ?_⟩) hS1 ?_
                · intro w9 hSw; (try dsimp only at hSw); obtain ⟨s0, s1⟩ := hSw; go_simp
                try simp only [Act.put, List.setIfInBounds_toArray, List.set_cons_zero, List.set_cons_succ]
                refine wpAnyH_take (i := 12) (oi := { dst := some 90, op := Op.move (Operand.tmp 0), type := 27, pos := "outright.go:87", after := #[{ on := 11, ground := Ground.guard }], guard := some (11, false) }) (v := .slice (some x) n cn) rfl (by kernel_rfl) (by kernel_rfl) (by kernel_rfl) (fun _ _ _ h => h) (Or.inl ⟨by rfl, ?_⟩) hS1 ?_
                · intro w9 hSw; (try dsimp only at hSw); obtain ⟨s0, s1⟩ := hSw; go_simp
                try simp only [Act.put, List.setIfInBounds_toArray, List.set_cons_zero, List.set_cons_succ]
                refine wpAnyH_take (i := 13) (oi := { dst := some 91, op := Op.move (Operand.tmp 5), type := 3, pos := "outright.go:87", after := #[{ on := 11, ground := Ground.guard }], guard := some (11, false) }) (v := .int .i64 i) rfl (by kernel_rfl) (by kernel_rfl) (by kernel_rfl) (fun _ _ _ h => h) (Or.inl ⟨by rfl, ?_⟩) hS1 ?_
                · intro w9 hSw; (try dsimp only at hSw); obtain ⟨s0, s1⟩ := hSw; go_simp
                try simp only [Act.put, List.setIfInBounds_toArray, List.set_cons_zero, List.set_cons_succ]
                refine wpAnyH_take (i := 14) (oi := { dst := some 92, op := Op.indexAddr 27 (Operand.tmp 90) (Operand.tmp 91), type := 0, pos := "outright.go:87", after := #[{ on := 12, ground := Ground.data }, { on := 13, ground := Ground.data }, { on := 11, ground := Ground.guard }], guard := some (11, false) }) (v := .pointer (some (x.add i))) rfl (by kernel_rfl) (by kernel_rfl) (by kernel_rfl) (fun _ _ _ h => h) (Or.inl ⟨by rfl, ?_⟩) hS1 ?_
                · intro w9 hSw; (try dsimp only at hSw); obtain ⟨s0, s1⟩ := hSw; go_simp
                try simp only [Act.put, List.setIfInBounds_toArray, List.set_cons_zero, List.set_cons_succ]
                refine wpAnyH_take (i := 15) (oi := { dst := some 93, op := Op.load 9 (Operand.tmp 92), type := 9, pos := "outright.go:87", after := #[{ on := 14, ground := Ground.data }, { on := 11, ground := Ground.guard }], guard := some (11, false) }) (v := .string ⟨di.toArray⟩) rfl (by kernel_rfl) (by kernel_rfl) (by kernel_rfl) (fun _ _ _ h => h) (Or.inl ⟨by rfl, ?_⟩) hS1 ?_
                · intro w9 hSw; (try dsimp only at hSw); obtain ⟨s0, s1⟩ := hSw; go_simp
                try simp only [Act.put, List.setIfInBounds_toArray, List.set_cons_zero, List.set_cons_succ]
                refine wpAnyH_take (i := 16) (oi := { dst := some 94, op := Op.move (Operand.tmp 0), type := 27, pos := "outright.go:87", after := #[{ on := 11, ground := Ground.guard }], guard := some (11, false) }) (v := .slice (some x) n cn) rfl (by kernel_rfl) (by kernel_rfl) (by kernel_rfl) (fun _ _ _ h => h) (Or.inl ⟨by rfl, ?_⟩) hS1 ?_
                · intro w9 hSw; (try dsimp only at hSw); obtain ⟨s0, s1⟩ := hSw; go_simp
                try simp only [Act.put, List.setIfInBounds_toArray, List.set_cons_zero, List.set_cons_succ]
                refine wpAnyH_take (i := 17) (oi := { dst := some 95, op := Op.move (Operand.tmp 8), type := 3, pos := "outright.go:87", after := #[{ on := 11, ground := Ground.guard }], guard := some (11, false) }) (v := .int .i64 k) rfl (by kernel_rfl) (by kernel_rfl) (by kernel_rfl) (fun _ _ _ h => h) (Or.inl ⟨by rfl, ?_⟩) hS1 ?_
                · intro w9 hSw; (try dsimp only at hSw); obtain ⟨s0, s1⟩ := hSw; go_simp
                try simp only [Act.put, List.setIfInBounds_toArray, List.set_cons_zero, List.set_cons_succ]
                refine wpAnyH_take (i := 18) (oi := { dst := some 96, op := Op.indexAddr 27 (Operand.tmp 94) (Operand.tmp 95), type := 0, pos := "outright.go:87", after := #[{ on := 16, ground := Ground.data }, { on := 17, ground := Ground.data }, { on := 11, ground := Ground.guard }], guard := some (11, false) }) (v := .pointer (some (x.add k))) rfl (by kernel_rfl) (by kernel_rfl) (by kernel_rfl) (fun _ _ _ h => h) (Or.inl ⟨by rfl, ?_⟩) hS1 ?_
                · intro w9 hSw; (try dsimp only at hSw); obtain ⟨s0, s1⟩ := hSw; go_simp
                try simp only [Act.put, List.setIfInBounds_toArray, List.set_cons_zero, List.set_cons_succ]
                refine wpAnyH_take (i := 19) (oi := { dst := some 97, op := Op.load 9 (Operand.tmp 96), type := 9, pos := "outright.go:87", after := #[{ on := 18, ground := Ground.data }, { on := 11, ground := Ground.guard }], guard := some (11, false) }) (v := .string ⟨d.toArray⟩) rfl (by kernel_rfl) (by kernel_rfl) (by kernel_rfl) (fun _ _ _ h => h) (Or.inl ⟨by rfl, ?_⟩) hS1 ?_
                · intro w9 hSw; (try dsimp only at hSw); obtain ⟨s0, s1⟩ := hSw; go_simp
                try simp only [Act.put, List.setIfInBounds_toArray, List.set_cons_zero, List.set_cons_succ]
                refine wpAnyH_ready (rs := [20]) (by kernel_rfl) (by simp) ?_
                refine AllReadyH.cons (o := { dst := some 98, op := Op.call { callee := Callee.value (Operand.func 8), args := #[Operand.tmp 93, Operand.tmp 97], argTypes := #[9, 9] }, type := 4, pos := "outright.go:87", after := #[{ on := 15, ground := Ground.data }, { on := 19, ground := Ground.data }, { on := 11, ground := Ground.chain }, { on := 11, ground := Ground.guard }], guard := some (11, false) }) rfl (fun K hK => ?_) AllReadyH.nil
                go_simp
                refine (hV _).mono ?_
                rintro e w7 ⟨rfl, hb7⟩
                have e1 := cell_of_below hb7 hck
                have e2 := cell_of_below hb7 hci
                go_wp2_with fail
                clear hS1
                refine hK.out _ _ (by go_keep) (fun hS1 => ?_)
                clear hK K
                try simp only [Act.put, List.setIfInBounds_toArray, List.set_cons_zero, List.set_cons_succ]
                refine wpAnyH_take (i := 21) (oi := { dst := some 99, op := Op.move (Operand.tmp 98), type := 4, pos := "outright.go:87", after := #[{ on := 20, ground := Ground.data }, { on := 20, ground := Ground.chain }, { on := 11, ground := Ground.guard }], guard := some (11, false) }) (v := .bool false) rfl (by kernel_rfl) (by kernel_rfl) (by kernel_rfl) (fun _ _ _ h => h) (Or.inl ⟨by rfl, ?_⟩) hS1 ?_
                · intro w9 hSw; (try dsimp only at hSw); obtain ⟨s0, s1⟩ := hSw; go_simp
                try simp only [Act.put, List.setIfInBounds_toArray, List.set_cons_zero, List.set_cons_succ]
                refine wpAnyH_take (i := 22) (oi := { dst := some 100, op := Op.move (Operand.tmp 9), type := 3, pos := "outright.go:87", after := #[{ on := 21, ground := Ground.guard }], guard := some (21, true) }) (v := undef) rfl (by kernel_rfl) (by kernel_rfl) (by kernel_rfl) (fun _ _ _ h => h) (Or.inr ⟨by rfl, rfl⟩) hS1 ?_
                try simp only [Act.put, List.setIfInBounds_toArray, List.set_cons_zero, List.set_cons_succ]
                refine wpAnyH_take (i := 23) (oi := { dst := some 101, op := Op.binOp BinOp.neq 3 (Operand.tmp 100) (Operand.const (Value.int IntKind.i64 0)) 3, type := 4, pos := "outright.go:87", after := #[{ on := 22, ground := Ground.data }, { on := 21, ground := Ground.guard }], guard := some (21, true) }) (v := undef) rfl (by kernel_rfl) (by kernel_rfl) (by kernel_rfl) (fun _ _ _ h => h) (Or.inr ⟨by rfl, rfl⟩) hS1 ?_
                try simp only [Act.put, List.setIfInBounds_toArray, List.set_cons_zero, List.set_cons_succ]
                refine wpAnyH_take (i := 24) (oi := { dst := some 102, op := Op.pick (Operand.tmp 99) (Operand.tmp 101) (Operand.const (Value.bool false)), type := 4, pos := "outright.go:87", after := #[{ on := 21, ground := Ground.data }, { on := 23, ground := Ground.data }, { on := 11, ground := Ground.guard }], guard := some (11, false) }) (v := .bool false) rfl (by kernel_rfl) (by kernel_rfl) (by kernel_rfl) (fun _ _ _ h => h) (Or.inl ⟨by rfl, ?_⟩) hS1 ?_
                · intro w9 hSw; (try dsimp only at hSw); obtain ⟨s0, s1⟩ := hSw; go_simp
                try simp only [Act.put, List.setIfInBounds_toArray, List.set_cons_zero, List.set_cons_succ]
                refine wpAnyH_take (i := 25) (oi := { dst := some 103, op := Op.pick (Operand.tmp 89) (Operand.const (Value.bool true)) (Operand.tmp 102), type := 4, pos := "outright.go:87", after := #[{ on := 11, ground := Ground.data }, { on := 24, ground := Ground.data }], guard := none }) (v := .bool false) rfl (by kernel_rfl) (by kernel_rfl) (by kernel_rfl) (fun _ _ _ h => h) (Or.inl ⟨by rfl, ?_⟩) hS1 ?_
                · intro w9 hSw; (try dsimp only at hSw); obtain ⟨s0, s1⟩ := hSw; go_simp
                try simp only [Act.put, List.setIfInBounds_toArray, List.set_cons_zero, List.set_cons_succ]
                refine wpAnyH_done (by kernel_rfl) (NoPanic.normal ?_) _
                have HB7 := hide2 (below_two HB6.out (⟨hb7.os, hb7.tape, hb7.output, hb7.size, hb7.block⟩ : Below w6.heap.size w6 w7))
                clear hb7
                go_wp2
                go_roundw
                case rel => exact ⟨k + 1, by go_num, by omega, HB7⟩
                case measure => simp [intOf]; omega
              | true =>
                go_wp2_with fail
                go_region_held3 (fun w' => w'.cell? (x.add k) = some (.string ⟨d.toArray⟩) ∧ w'.cell? (x.add i) = some (.string ⟨di.toArray⟩)) (go_keep) (first | (go_at_call 8; refine (hV _).mono ?_; rintro e w7 ⟨rfl, hb7⟩; have e1 := cell_of_below hb7 hck; have e2 := cell_of_below hb7 hci))
                have HB7 := hide2 (below_two HB6.out (⟨hb7.os, hb7.tape, hb7.output, hb7.size, hb7.block⟩ : Below w6.heap.size w6 w7))
                clear hb7
                go_wp2
                go_roundw
                case rel => exact ⟨k + 1, by go_num, by omega, HB7⟩
                case measure => simp [intOf]; omega
            · have op : 0 < o := by omega
              obtain rfl : c = false := by
                have := HCO.out
                cases c with
                | false => rfl
                | true => have := this rfl; omega
              have d1 : decide (o < 0) = false := decide_eq_false (by omega)
              have d2 : (o == 0) = false := by simp; omega
              have d3 : ¬ o < 0 := by omega
              clear o2 HA HCO hz o1
              go_wp2_with fail
              refine wp_region_noPanic ?_
              refine wp_region_held_drew (S := (fun w' => w'.cell? (x.add k) = some (.string ⟨d.toArray⟩) ∧ w'.cell? (x.add i) = some (.string ⟨di.toArray⟩))) (by kernel_rfl) (by go_keep) (fun hS1 => ?_)
              refine wpAnyH_take (i := 0) (oi := { dst := some 78, op := Op.move (Operand.tmp 9), type := 3, pos := "outright.go:87", after := #[], guard := none }) (v := .int .i64 o) rfl (by kernel_rfl) (by kernel_rfl) (by kernel_rfl) (fun _ _ _ h => h) (Or.inl ⟨by rfl, ?_⟩) hS1 ?_
              · intro w9 hSw; (try dsimp only at hSw); obtain ⟨s0, s1⟩ := hSw; go_simp
              try simp only [Act.put, List.setIfInBounds_toArray, List.set_cons_zero, List.set_cons_succ]
              refine wpAnyH_take (i := 1) (oi := { dst := some 79, op := Op.binOp BinOp.lss 3 (Operand.tmp 78) (Operand.const (Value.int IntKind.i64 0)) 3, type := 4, pos := "outright.go:87", after := #[{ on := 0, ground := Ground.data }], guard := none }) (v := .bool false) rfl (by kernel_rfl) (by kernel_rfl) (by kernel_rfl) (fun _ _ _ h => h) (Or.inl ⟨by rfl, ?_⟩) hS1 ?_
              · intro w9 hSw; (try dsimp only at hSw); obtain ⟨s0, s1⟩ := hSw; go_simp
              try simp only [Act.put, List.setIfInBounds_toArray, List.set_cons_zero, List.set_cons_succ]
              refine wpAnyH_take (i := 2) (oi := { dst := some 80, op := Op.move (Operand.tmp 79), type := 4, pos := "outright.go:87", after := #[{ on := 1, ground := Ground.data }], guard := none }) (v := .bool false) rfl (by kernel_rfl) (by kernel_rfl) (by kernel_rfl) (fun _ _ _ h => h) (Or.inl ⟨by rfl, ?_⟩) hS1 ?_
              · intro w9 hSw; (try dsimp only at hSw); obtain ⟨s0, s1⟩ := hSw; go_simp
              try simp only [Act.put, List.setIfInBounds_toArray, List.set_cons_zero, List.set_cons_succ]
              refine wpAnyH_take (i := 3) (oi := { dst := some 81, op := Op.move (Operand.tmp 9), type := 3, pos := "outright.go:87", after := #[{ on := 2, ground := Ground.guard }], guard := some (2, false) }) (v := .int .i64 o) rfl (by kernel_rfl) (by kernel_rfl) (by kernel_rfl) (fun _ _ _ h => h) (Or.inl ⟨by rfl, ?_⟩) hS1 ?_
              · intro w9 hSw; (try dsimp only at hSw); obtain ⟨s0, s1⟩ := hSw; go_simp
              try simp only [Act.put, List.setIfInBounds_toArray, List.set_cons_zero, List.set_cons_succ]
              refine wpAnyH_take (i := 4) (oi := { dst := some 82, op := Op.binOp BinOp.eql 3 (Operand.tmp 81) (Operand.const (Value.int IntKind.i64 0)) 3, type := 4, pos := "outright.go:87", after := #[{ on := 3, ground := Ground.data }, { on := 2, ground := Ground.guard }], guard := some (2, false) }) (v := .bool false) rfl (by kernel_rfl) (by kernel_rfl) (by kernel_rfl) (fun _ _ _ h => h) (Or.inl ⟨by rfl, ?_⟩) hS1 ?_
              · intro w9 hSw; (try dsimp only at hSw); obtain ⟨s0, s1⟩ := hSw; go_simp
              try simp only [Act.put, List.setIfInBounds_toArray, List.set_cons_zero, List.set_cons_succ]
              refine wpAnyH_take (i := 5) (oi := { dst := some 83, op := Op.move (Operand.tmp 82), type := 4, pos := "outright.go:87", after := #[{ on := 4, ground := Ground.data }, { on := 2, ground := Ground.chain }, { on := 2, ground := Ground.guard }], guard := some (2, false) }) (v := .bool false) rfl (by kernel_rfl) (by kernel_rfl) (by kernel_rfl) (fun _ _ _ h => h) (Or.inl ⟨by rfl, ?_⟩) hS1 ?_
              · intro w9 hSw; (try dsimp only at hSw); obtain ⟨s0, s1⟩ := hSw; go_simp
              try simp only [Act.put, List.setIfInBounds_toArray, List.set_cons_zero, List.set_cons_succ]
              refine wpAnyH_take (i := 6) (oi := { dst := some 84, op := Op.move (Operand.tmp 8), type := 3, pos := "outright.go:87", after := #[{ on := 5, ground := Ground.guard }], guard := some (5, true) }) (v := undef) rfl (by kernel_rfl) (by kernel_rfl) (by kernel_rfl) (fun _ _ _ h => h) (Or.inr ⟨by rfl, rfl⟩) hS1 ?_
              try simp only [Act.put, List.setIfInBounds_toArray, List.set_cons_zero, List.set_cons_succ]
              refine wpAnyH_take (i := 7) (oi := { dst := some 85, op := Op.move (Operand.tmp 5), type := 3, pos := "outright.go:87", after := #[{ on := 5, ground := Ground.guard }], guard := some (5, true) }) (v := undef) rfl (by kernel_rfl) (by kernel_rfl) (by kernel_rfl) (fun _ _ _ h => h) (Or.inr ⟨by rfl, rfl⟩) hS1 ?_
              try simp only [Act.put, List.setIfInBounds_toArray, List.set_cons_zero, List.set_cons_succ]
              refine wpAnyH_take (i := 8) (oi := { dst := some 86, op := Op.binOp BinOp.lss 3 (Operand.tmp 84) (Operand.tmp 85) 3, type := 4, pos := "outright.go:87", after := #[{ on := 6, ground := Ground.data }, { on := 7, ground := Ground.data }, { on := 5, ground := Ground.guard }], guard := some (5, true) }) (v := undef) rfl (by kernel_rfl) (by kernel_rfl) (by kernel_rfl) (fun _ _ _ h => h) (Or.inr ⟨by rfl, rfl⟩) hS1 ?_
              try simp only [Act.put, List.setIfInBounds_toArray, List.set_cons_zero, List.set_cons_succ]
              refine wpAnyH_take (i := 9) (oi := { dst := some 87, op := Op.pick (Operand.tmp 83) (Operand.tmp 86) (Operand.const (Value.bool false)), type := 4, pos := "outright.go:87", after := #[{ on := 5, ground := Ground.data }, { on := 8, ground := Ground.data }, { on := 2, ground := Ground.guard }], guard := some (2, false) }) (v := .bool false) rfl (by kernel_rfl) (by kernel_rfl) (by kernel_rfl) (fun _ _ _ h => h) (Or.inl ⟨by rfl, ?_⟩) hS1 ?_
              · intro w9 hSw; (try dsimp only at hSw); obtain ⟨s0, s1⟩ := hSw; go_simp
              try simp only [Act.put, List.setIfInBounds_toArray, List.set_cons_zero, List.set_cons_succ]
              refine wpAnyH_take (i := 10) (oi := { dst := some 88, op := Op.pick (Operand.tmp 80) (Operand.const (Value.bool true)) (Operand.tmp 87), type := 4, pos := "outright.go:87", after := #[{ on := 2, ground := Ground.data }, { on := 9, ground := Ground.data }], guard := none }) (v := .bool false) rfl (by kernel_rfl) (by kernel_rfl) (by kernel_rfl) (fun _ _ _ h => h) (Or.inl ⟨by rfl, ?_⟩) hS1 ?_
              · intro w9 hSw; (try dsimp only at hSw); obtain ⟨s0, s1⟩ := hSw; go_simp
              try simp only [Act.put, List.setIfInBounds_toArray, List.set_cons_zero, List.set_cons_succ]
              refine wpAnyH_take (i := 11) (oi := { dst := some 89, op := Op.move (Operand.tmp 88), type := 4, pos := "outright.go:87", after := #[{ on := 10, ground := Ground.data }, { on := 5, ground := Ground.chain }], guard := none }) (v := .bool false) rfl (by kernel_rfl) (by kernel_rfl) (by kernel_rfl) (fun _ _ _ h => h) (Or.inl ⟨by rfl, ?_⟩) hS1 ?_
              · intro w9 hSw; (try dsimp only at hSw); obtain ⟨s0, s1⟩ := hSw; go_simp
              try simp only [Act.put, List.setIfInBounds_toArray, List.set_cons_zero, List.set_cons_succ]
              refine wpAnyH_take (i := 12) (oi := { dst := some 90, op := Op.move (Operand.tmp 0), type := 27, pos := "outright.go:87", after := #[{ on := 11, ground := Ground.guard }], guard := some (11, false) }) (v := .slice (some x) n cn) rfl (by kernel_rfl) (by kernel_rfl) (by kernel_rfl) (fun _ _ _ h => h) (Or.inl ⟨by rfl, ?_⟩) hS1 ?_
              · intro w9 hSw; (try dsimp only at hSw); obtain ⟨s0, s1⟩ := hSw; go_simp
              try simp only [Act.put, List.setIfInBounds_toArray, List.set_cons_zero, List.set_cons_succ]
              refine wpAnyH_take (i := 13) (oi := { dst := some 91, op := Op.move (Operand.tmp 5), type := 3, pos := "outright.go:87", after := #[{ on := 11, ground := Ground.guard }], guard := some (11, false) }) (v := .int .i64 i) rfl (by kernel_rfl) (by kernel_rfl) (by kernel_rfl) (fun _ _ _ h => h) (Or.inl ⟨by rfl, ?_⟩) hS1 ?_
              · intro w9 hSw; (try dsimp only at hSw); obtain ⟨s0, s1⟩ := hSw; go_simp
              try simp only [Act.put, List.setIfInBounds_toArray, List.set_cons_zero, List.set_cons_succ]
              refine wpAnyH_take (i := 14) (oi := { dst := some 92, op := Op.indexAddr 27 (Operand.tmp 90) (Operand.tmp 91), type := 0, pos := "outright.go:87", after := #[{ on := 12, ground := Ground.data }, { on := 13, ground := Ground.data }, { on := 11, ground := Ground.guard }], guard := some (11, false) }) (v := .pointer (some (x.add i))) rfl (by kernel_rfl) (by kernel_rfl) (by kernel_rfl) (fun _ _ _ h => h) (Or.inl ⟨by rfl, ?_⟩) hS1 ?_
              · intro w9 hSw; (try dsimp only at hSw); obtain ⟨s0, s1⟩ := hSw; go_simp
              try simp only [Act.put, List.setIfInBounds_toArray, List.set_cons_zero, List.set_cons_succ]
              refine wpAnyH_take (i := 15) (oi := { dst := some 93, op := Op.load 9 (Operand.tmp 92), type := 9, pos := "outright.go:87", after := #[{ on := 14, ground := Ground.data }, { on := 11, ground := Ground.guard }], guard := some (11, false) }) (v := .string ⟨di.toArray⟩) rfl (by kernel_rfl) (by kernel_rfl) (by kernel_rfl) (fun _ _ _ h => h) (Or.inl ⟨by rfl, ?_⟩) hS1 ?_
              · intro w9 hSw; (try dsimp only at hSw); obtain ⟨s0, s1⟩ := hSw; go_simp
              try simp only [Act.put, List.setIfInBounds_toArray, List.set_cons_zero, List.set_cons_succ]
              refine wpAnyH_take (i := 16) (oi := { dst := some 94, op := Op.move (Operand.tmp 0), type := 27, pos := "outright.go:87", after := #[{ on := 11, ground := Ground.guard }], guard := some (11, false) }) (v := .slice (some x) n cn) rfl (by kernel_rfl) (by kernel_rfl) (by kernel_rfl) (fun _ _ _ h => h) (Or.inl ⟨by rfl, ?_⟩) hS1 ?_
              · intro w9 hSw; (try dsimp only at hSw); obtain ⟨s0, s1⟩ := hSw; go_simp
              try simp only [Act.put, List.setIfInBounds_toArray, List.set_cons_zero, List.set_cons_succ]
              refine wpAnyH_take (i := 17) (oi := { dst := some 95, op := Op.move (Operand.tmp 8), type := 3, pos := "outright.go:87", after := #[{ on := 11, ground := Ground.guard }], guard := some (11, false) }) (v := .int .i64 k) rfl (by kernel_rfl) (by kernel_rfl) (by kernel_rfl) (fun _ _ _ h => h) (Or.inl ⟨by rfl, ?_⟩) hS1 ?_
              · intro w9 hSw; (try dsimp only at hSw); obtain ⟨s0, s1⟩ := hSw; go_simp
              try simp only [Act.put, List.setIfInBounds_toArray, List.set_cons_zero, List.set_cons_succ]
              refine wpAnyH_take (i := 18) (oi := { dst := some 96, op := Op.indexAddr 27 (Operand.tmp 94) (Operand.tmp 95), type := 0, pos := "outright.go:87", after := #[{ on := 16, ground := Ground.data }, { on := 17, ground := Ground.data }, { on := 11, ground := Ground.guard }], guard := some (11, false) }) (v := .pointer (some (x.add k))) rfl (by kernel_rfl) (by kernel_rfl) (by kernel_rfl) (fun _ _ _ h => h) (Or.inl ⟨by rfl, ?_⟩) hS1 ?_
              · intro w9 hSw; (try dsimp only at hSw); obtain ⟨s0, s1⟩ := hSw; go_simp
              try simp only [Act.put, List.setIfInBounds_toArray, List.set_cons_zero, List.set_cons_succ]
              refine wpAnyH_take (i := 19) (oi := { dst := some 97, op := Op.load 9 (Operand.tmp 96), type := 9, pos := "outright.go:87", after := #[{ on := 18, ground := Ground.data }, { on := 11, ground := Ground.guard }], guard := some (11, false) }) (v := .string ⟨d.toArray⟩) rfl (by kernel_rfl) (by kernel_rfl) (by kernel_rfl) (fun _ _ _ h => h) (Or.inl ⟨by rfl, ?_⟩) hS1 ?_
              · intro w9 hSw; (try dsimp only at hSw); obtain ⟨s0, s1⟩ := hSw; go_simp
              try simp only [Act.put, List.setIfInBounds_toArray, List.set_cons_zero, List.set_cons_succ]
              refine wpAnyH_ready (rs := [20]) (by kernel_rfl) (by simp) ?_
              refine AllReadyH.cons (o := { dst := some 98, op := Op.call { callee := Callee.value (Operand.func 8), args := #[Operand.tmp 93, Operand.tmp 97], argTypes := #[9, 9] }, type := 4, pos := "outright.go:87", after := #[{ on := 15, ground := Ground.data }, { on := 19, ground := Ground.data }, { on := 11, ground := Ground.chain }, { on := 11, ground := Ground.guard }], guard := some (11, false) }) rfl (fun K hK => ?_) AllReadyH.nil
              go_simp
              refine (hV _).mono ?_
              rintro e w7 ⟨rfl, hb7⟩
              have e1 := cell_of_below hb7 hck
              have e2 := cell_of_below hb7 hci
              go_wp2_with fail
              clear hS1
              refine hK.out _ _ (by go_keep) (fun hS1 => ?_)
              clear hK K
              try simp only [Act.put, List.setIfInBounds_toArray, List.set_cons_zero, List.set_cons_succ]
              refine wpAnyH_take (i := 21) (oi := { dst := some 99, op := Op.move (Operand.tmp 98), type := 4, pos := "outright.go:87", after := #[{ on := 20, ground := Ground.data }, { on := 20, ground := Ground.chain }, { on := 11, ground := Ground.guard }], guard := some (11, false) }) (v := .bool false) rfl (by kernel_rfl) (by kernel_rfl) (by kernel_rfl) (fun _ _ _ h => h) (Or.inl ⟨by rfl, ?_⟩) hS1 ?_
              · intro w9 hSw; (try dsimp only at hSw); obtain ⟨s0, s1⟩ := hSw; go_simp
              try simp only [Act.put, List.setIfInBounds_toArray, List.set_cons_zero, List.set_cons_succ]
              refine wpAnyH_take (i := 22) (oi := { dst := some 100, op := Op.move (Operand.tmp 9), type := 3, pos := "outright.go:87", after := #[{ on := 21, ground := Ground.guard }], guard := some (21, true) }) (v := undef) rfl (by kernel_rfl) (by kernel_rfl) (by kernel_rfl) (fun _ _ _ h => h) (Or.inr ⟨by rfl, rfl⟩) hS1 ?_
              try simp only [Act.put, List.setIfInBounds_toArray, List.set_cons_zero, List.set_cons_succ]
              refine wpAnyH_take (i := 23) (oi := { dst := some 101, op := Op.binOp BinOp.neq 3 (Operand.tmp 100) (Operand.const (Value.int IntKind.i64 0)) 3, type := 4, pos := "outright.go:87", after := #[{ on := 22, ground := Ground.data }, { on := 21, ground := Ground.guard }], guard := some (21, true) }) (v := undef) rfl (by kernel_rfl) (by kernel_rfl) (by kernel_rfl) (fun _ _ _ h => h) (Or.inr ⟨by rfl, rfl⟩) hS1 ?_
              try simp only [Act.put, List.setIfInBounds_toArray, List.set_cons_zero, List.set_cons_succ]
              refine wpAnyH_take (i := 24) (oi := { dst := some 102, op := Op.pick (Operand.tmp 99) (Operand.tmp 101) (Operand.const (Value.bool false)), type := 4, pos := "outright.go:87", after := #[{ on := 21, ground := Ground.data }, { on := 23, ground := Ground.data }, { on := 11, ground := Ground.guard }], guard := some (11, false) }) (v := .bool false) rfl (by kernel_rfl) (by kernel_rfl) (by kernel_rfl) (fun _ _ _ h => h) (Or.inl ⟨by rfl, ?_⟩) hS1 ?_
              · intro w9 hSw; (try dsimp only at hSw); obtain ⟨s0, s1⟩ := hSw; go_simp
              try simp only [Act.put, List.setIfInBounds_toArray, List.set_cons_zero, List.set_cons_succ]
              refine wpAnyH_take (i := 25) (oi := { dst := some 103, op := Op.pick (Operand.tmp 89) (Operand.const (Value.bool true)) (Operand.tmp 102), type := 4, pos := "outright.go:87", after := #[{ on := 11, ground := Ground.data }, { on := 24, ground := Ground.data }], guard := none }) (v := .bool false) rfl (by kernel_rfl) (by kernel_rfl) (by kernel_rfl) (fun _ _ _ h => h) (Or.inl ⟨by rfl, ?_⟩) hS1 ?_
              · intro w9 hSw; (try dsimp only at hSw); obtain ⟨s0, s1⟩ := hSw; go_simp
              try simp only [Act.put, List.setIfInBounds_toArray, List.set_cons_zero, List.set_cons_succ]
              refine wpAnyH_done (by kernel_rfl) (NoPanic.normal ?_) _
              have HB7 := hide2 (below_two HB6.out (⟨hb7.os, hb7.tape, hb7.output, hb7.size, hb7.block⟩ : Below w6.heap.size w6 w7))
              clear hb7
              go_wp2
              go_roundw
              case rel => exact ⟨k + 1, by go_num, by omega, HB7⟩
              case measure => simp [intOf]; omega
        · have h3' : ¬ (k : Int) < n := by omega
          go_wp2
          go_ret
          exact ⟨rfl, below_two HB4.out HBR2.out⟩
end Go.Proofs.Ytplbdnndpgfljab
