/-
  The walk of NetScripts.
-/
import Derived.Test.YtcbnmoppnoiggaaTwo
import Derived.Deep.CutRange
import Derived.Deep.DeepCutAuto
namespace Go.Proofs.Ytcbnmoppnoiggaa
open Go.RowKit
set_option linter.unusedVariables false
set_option linter.unusedSimpArgs false
set_option maxRecDepth 100000
theorem LC.at {w : World} {a : Option Addr} {ls : List Cl} (h : LC w a ls) {i : Nat} {c : Cl} (hc : ls[i]? = some c) : ∃ bl ol, a = some ⟨bl, ol, none⟩ ∧ ∀ W, Below w.heap.size w W → W.cell? ⟨bl, ol + i * 6, none⟩ = some (.int .i64 c.kd) ∧ W.cell? ⟨bl, ol + i * 6 + 1, none⟩ = some (.string c.nm) ∧ W.cell? ⟨bl, ol + i * 6 + 2, none⟩ = some (.int .i64 c.cn) ∧ W.cell? ⟨bl, ol + i * 6 + 3, none⟩ = some (.int .i64 c.sd) ∧ W.cell? ⟨bl, ol + i * 6 + 4, none⟩ = some (.int .i64 c.nn) ∧ W.cell? ⟨bl, ol + i * 6 + 5, none⟩ = some (.slice c.d.a c.d.n c.d.cap) := by
  rcases h.at_ with h | ⟨bl, ol, e, hh⟩
  · subst h; simp at hc
  · exact ⟨bl, ol, e, fun W hb => ⟨cell_of_below hb (hh i c hc 0 _ rfl), cell_of_below hb (hh i c hc 1 _ rfl), cell_of_below hb (hh i c hc 2 _ rfl), cell_of_below hb (hh i c hc 3 _ rfl), cell_of_below hb (hh i c hc 4 _ rfl), cell_of_below hb (hh i c hc 5 _ rfl)⟩⟩
/-- where a list stands -/
structure Lst (w : World) (a : Option Addr) (n : Nat) (ls : List Cl) : Prop where
  len : ls.length = n
  lc : LC w a ls
  sz : sumN ls + n ≤ 1048576
  ok : ∀ s ∈ ls, s.nm.size ≤ maxLen ∧ (Lit.int .i64 s.nn).wf = true
theorem Lst.came {w : World} {a : Option Addr} {n : Nat} {ls : List Cl} (h : Lst w a n ls) {i : Nat} {c : Cl} (hc : ls[i]? = some c) : Came w c := ⟨(h.ok c (List.mem_of_getElem? hc)).1, (h.ok c (List.mem_of_getElem? hc)).2, h.lc.bs c (List.mem_of_getElem? hc)⟩
theorem two_w (w : World) : ∀ W0, W0 = ((((w.alloc (.cells #[.slice none 0 0, .map none] 55 (0, 0))).alloc (.cells #[.slice none 0 0, .map none] 55 (0, 0))).alloc (.cells #[.slice none 0 0, .slice none 0 0, .slice none 0 0] 30 (0, 0))).alloc (.cells #[.slice none 0 0, .slice none 0 0, .slice none 0 0] 30 (0, 0))) →
    Two w W0 (some (St.new w.heap.size (w.heap.size + 1 + 1))) (some (St.new (w.heap.size + 1) (w.heap.size + 1 + 1 + 1))) (some ⟨w.heap.size, 0, none⟩) (some ⟨w.heap.size + 1 + 1, 0, none⟩) (some ⟨w.heap.size + 1, 0, none⟩) (some ⟨w.heap.size + 1 + 1 + 1, 0, none⟩) 0 0 0 0 ∧ Two w W0 none (some (St.new (w.heap.size + 1) (w.heap.size + 1 + 1 + 1))) none none (some ⟨w.heap.size + 1, 0, none⟩) (some ⟨w.heap.size + 1 + 1 + 1, 0, none⟩) 0 0 0 0 := by
  intro W0 hW0
  obtain ⟨O1, h1⟩ : ∃ O1, O1 = Obj.cells #[.slice none 0 0, .map none] 55 (0, 0) := ⟨_, rfl⟩
  obtain ⟨O2, h2⟩ : ∃ O2, O2 = Obj.cells #[.slice none 0 0, .slice none 0 0, .slice none 0 0] 30 (0, 0) := ⟨_, rfl⟩
  rw [← h1, ← h2] at hW0
  have b1 : W0.heap[w.heap.size]? = some O1 := by
    rw [hW0, Below.heap_alloc _ _ _ (by simp; omega), Below.heap_alloc _ _ _ (by simp; omega), Below.heap_alloc _ _ _ (by simp)]; exact Go.heap_alloc_new w O1
  have b2 : W0.heap[w.heap.size + 1]? = some O1 := by
    rw [hW0, Below.heap_alloc _ _ _ (by simp), Below.heap_alloc _ _ _ (by simp)]
    have := Go.heap_alloc_new (w.alloc O1) O1; simpa using this
  have b3 : W0.heap[w.heap.size + 1 + 1]? = some O2 := by
    rw [hW0, Below.heap_alloc _ _ _ (by simp)]
    have := Go.heap_alloc_new ((w.alloc O1).alloc O1) O2; simpa using this
  have b4 : W0.heap[w.heap.size + 1 + 1 + 1]? = some O2 := by
    rw [hW0]
    have := Go.heap_alloc_new (((w.alloc O1).alloc O1).alloc O2) O2; simpa using this
  have hB : Below w.heap.size w W0 := by
    rw [hW0]
    exact (((((Below.refl _ _).alloc (Nat.le_refl _) _).alloc (by simp) _).alloc (by simp; omega) _).alloc (by simp; omega) _)
  subst h1
  subst h2
  exact two_start b1 b2 b3 b4 (by omega) (by omega) (by omega) (by omega) (by omega) (by omega) (by omega) (by omega) hB
theorem sum_more {ls : List Cl} {i n : Nat} (hl : ls.length = n) (hi : ¬ i < n) : sumN (ls.take (i + 1)) = sumN (ls.take i) := by
  rw [List.take_of_length_le (by omega), List.take_of_length_le (by omega)]
theorem Two.more {w W : World} {oa ob : Option St} {A P B Q : Option Addr} {Da Na Db Nb Da' Na' : Nat} (h : Two w W oa ob A P B Q Da Na Db Nb) (h1 : Da ≤ Da') (h2 : Na ≤ Na') : Two w W oa ob A P B Q Da' Na' Db Nb := ⟨h.pa, h.pb, h.ea, h.ea', h.eb, h.eb', h.oba.mono h1 h2, h.obb, h.ap, h.bel⟩
set_option maxHeartbeats 8000000 in
theorem scripts_any (a b : Option Addr) (n m ca cb : Nat) (ls ms : List Cl) (v : Bool) (w : World) (hl : Lst w a n ls) (hm : Lst w b m ms) :
    Calls Try.prog 3 #[.slice a n ca, .slice b m cb, .bool v] w fun e w' => e = .returned (.bool true) ∧ Below w.heap.size w w' := by
  have HL : Hid (Lst w a n ls) := hl
  have HM : Hid (Lst w b m ms) := hm
  have hn : n ≤ 1048576 := by have := hl.sz; omega
  have hm' : m ≤ 1048576 := by have := hm.sz; omega
  clear hl hm
  go_enter Try.func3, Try.ntmps3
  go_upto_if 25 with (first | (go_at_call 7; refine (new_any _).mono ?_; rintro e w1 ⟨rfl, rfl⟩))
  go_cut [2, 7, 9, 25] (fun x s p y wx => ∃ (oa : Option St) (A P : Option Addr), s = .pointer A ∧ p = .pointer P ∧ Hid (Two w wx oa (some (St.new (w.heap.size + 1) (w.heap.size + 1 + 1 + 1))) A P (some ⟨w.heap.size + 1, 0, none⟩) (some ⟨w.heap.size + 1 + 1 + 1, 0, none⟩) 0 0 0 0))
  case first =>
    have H0 := two_w w _ rfl
    cases v
    · go_wp2_with fail
      go_meet
      case rel => exact ⟨_, _, _, rfl, rfl, H0.1⟩
    · go_wp2_with fail
      go_meet
      case rel => exact ⟨_, _, _, rfl, rfl, H0.2⟩
  case rest =>
    obtain ⟨oa0, A, P, rfl, rfl, HT0⟩ := hcut
    go_wp2_with fail
    go_loopw [11] (fun t W => ∃ (i : Nat) (oa ob : Option St), (i ≤ n ∨ i ≤ m) ∧ t = .int .i64 i ∧ Hid (Two w W oa ob A P (some ⟨w.heap.size + 1, 0, none⟩) (some ⟨w.heap.size + 1 + 1 + 1, 0, none⟩) (sumN (ls.take i)) i (sumN (ms.take i)) i)) (fun t _ => n + m - (intOf t).toNat)
    case atStart => exact ⟨0, oa0, _, by omega, rfl, HT0⟩
    case round =>
      obtain ⟨i, oa, ob, hi', rfl, HT⟩ := hrel
      have i0 : (0 : Int) ≤ i := by omega
      by_cases hend : i < n ∨ i < m
      · go_upto_region 9 with fail
        go_cut [35] (fun t wx => t = .bool true ∧ wx = wr)
        case first =>
          by_cases h1 : i < n
          · have h1' : (i : Int) < n := by omega
            go_wp2_with fail
            go_meet
            case rel => exact ⟨rfl, rfl⟩
          · have h1' : ¬ (i : Int) < n := by omega
            have h2' : (i : Int) < m := by omega
            go_wp2_with fail
            go_meet
            case rel => exact ⟨rfl, rfl⟩
        case rest =>
          obtain ⟨rfl, hwc⟩ := hcut
          have hwc := hwc.symm
          subst hwc
          go_upto_region 11 with fail
          go_cut [78] (fun t wx => t = .bool false ∧ ∃ ox, Hid (Two w wx ox ob A P (some ⟨w.heap.size + 1, 0, none⟩) (some ⟨w.heap.size + 1 + 1 + 1, 0, none⟩) (sumN (ls.take (i + 1))) (i + 1) (sumN (ms.take i)) i))
          case first =>
            as_aux_lemma =>
              by_cases hi : i < n
              · have hii : (i : Int) < n := by omega
                obtain ⟨c, hc⟩ : ∃ c, ls[i]? = some c := ⟨ls[i]'(by have := HL.out.len; omega), List.getElem?_eq_getElem _⟩
                obtain ⟨bl, ol, rfl, hcell⟩ := HL.out.lc.at hc
                have hcm := HL.out.came hc
                have hst := sumN_take hc
                have hsl := sumN_le ls (i + 1)
                have hsz := HL.out.sz
                have hs1 := (HT.out.like (same_drew wr)).step c hcm (by omega) (by omega)
                rw [← hst] at hs1
                obtain ⟨kd, nm, cn, sd, nn, ⟨da, dn, dc, dz⟩⟩ := c
                obtain ⟨f0, f1, f2, f3, f4, f5⟩ := hcell wr.drew (HT.out.bel.drew)
                have HCL : Hid (∀ W, Below w.heap.size w W → W.cell? ⟨bl, ol + i * 6, none⟩ = some (.int .i64 kd) ∧ W.cell? ⟨bl, ol + i * 6 + 1, none⟩ = some (.string nm) ∧ W.cell? ⟨bl, ol + i * 6 + 2, none⟩ = some (.int .i64 cn) ∧ W.cell? ⟨bl, ol + i * 6 + 3, none⟩ = some (.int .i64 sd) ∧ W.cell? ⟨bl, ol + i * 6 + 4, none⟩ = some (.int .i64 nn) ∧ W.cell? ⟨bl, ol + i * 6 + 5, none⟩ = some (.slice da dn dc)) := hcell
                have HS1 : Hid (Calls Try.prog 8 #[.pointer A, .pointer P, .agg #[.int .i64 kd, .string nm, .int .i64 cn, .int .i64 sd, .int .i64 nn, .slice da dn dc]] wr.drew fun e W' => e = .returned (.bool true) ∧ Below w.heap.size w W' ∧ ∃ E : Int, Calls Try.prog 9 #[.pointer A, .int .i64 cn, .int .i64 sd] W' (fun e w1 => w1 = W' ∧ e = .returned (.int .i64 E)) ∧ Calls Try.prog 10 #[.pointer P, .int .i64 cn, .int .i64 sd] W' fun e w2 => e = .returned (.int .i64 E) ∧ Below w.heap.size w w2 ∧ ∃ ox, Two w w2 ox ob A P (some ⟨w.heap.size + 1, 0, none⟩) (some ⟨w.heap.size + 1 + 1 + 1, 0, none⟩) (sumN (ls.take (i + 1))) (i + 1) (sumN (ms.take i)) i) := hs1
                clear hs1 hcm hst hsl hsz hc hcell
                go_wp2_with fail
                go_region_held3 (fun w' => w'.cell? ⟨bl, ol + i * 6, none⟩ = some (.int .i64 kd) ∧ w'.cell? ⟨bl, ol + i * 6 + 1, none⟩ = some (.string nm) ∧ w'.cell? ⟨bl, ol + i * 6 + 2, none⟩ = some (.int .i64 cn) ∧ w'.cell? ⟨bl, ol + i * 6 + 3, none⟩ = some (.int .i64 sd) ∧ w'.cell? ⟨bl, ol + i * 6 + 4, none⟩ = some (.int .i64 nn) ∧ w'.cell? ⟨bl, ol + i * 6 + 5, none⟩ = some (.slice da dn dc)) (go_keep) (first | (go_at_call 8; refine HS1.out.mono ?_; rintro e W1 ⟨rfl, hb1, E, hu1, hu2⟩; have HU1 : Hid (Calls Try.prog 9 #[.pointer A, .int .i64 cn, .int .i64 sd] W1 (fun e w1 => w1 = W1 ∧ e = .returned (.int .i64 E))) := hu1; have HU2 : Hid (Calls Try.prog 10 #[.pointer P, .int .i64 cn, .int .i64 sd] W1 fun e w2 => e = .returned (.int .i64 E) ∧ Below w.heap.size w w2 ∧ ∃ ox, Two w w2 ox ob A P (some ⟨w.heap.size + 1, 0, none⟩) (some ⟨w.heap.size + 1 + 1 + 1, 0, none⟩) (sumN (ls.take (i + 1))) (i + 1) (sumN (ms.take i)) i) := hu2; obtain ⟨g0, g1, g2, g3, g4, g5⟩ := HCL.out W1 hb1; clear hb1 hu1 hu2) | (go_at_call 9; refine HU1.out.mono ?_; rintro e W2 ⟨hw, rfl⟩; have hw := hw.symm; subst hw) | (go_at_call 10; refine HU2.out.mono ?_; rintro e W3 ⟨rfl, hb3, ox, ht⟩; have HT3 : Hid (Two w W3 ox ob A P (some ⟨w.heap.size + 1, 0, none⟩) (some ⟨w.heap.size + 1 + 1 + 1, 0, none⟩) (sumN (ls.take (i + 1))) (i + 1) (sumN (ms.take i)) i) := ht; obtain ⟨j0, j1, j2, j3, j4, j5⟩ := HCL.out W3 hb3; clear hb3 ht))
                go_wp2_with fail
                go_meet
                case rel => exact ⟨rfl, ox, HT3⟩
              · have hii : ¬ (i : Int) < n := by omega
                go_wp2_with fail
                go_quiet (fail)
                go_wp2_with fail
                go_meet
                case rel => exact ⟨rfl, _, ((HT.out.more (Nat.le_of_eq (sum_more HL.out.len hi).symm) (Nat.le_succ _)).like ⟨rfl, rfl, rfl, rfl⟩)⟩
          case rest =>
            obtain ⟨rfl, oa1, HT1⟩ := hcut
            obtain ⟨w5, hw5⟩ : ∃ w5, w5 = wc := ⟨wc, rfl⟩
            subst hw5
            clear HT
            go_upto_region 13 with fail
            go_cut [119] (fun t wx => t = .bool false ∧ ∃ ox, Hid (Two w wx ox oa1 (some ⟨w.heap.size + 1, 0, none⟩) (some ⟨w.heap.size + 1 + 1 + 1, 0, none⟩) A P (sumN (ms.take (i + 1))) (i + 1) (sumN (ls.take (i + 1))) (i + 1)))
            case first =>
              as_aux_lemma =>
                by_cases hi : i < m
                · have hii : (i : Int) < m := by omega
                  obtain ⟨c, hc⟩ : ∃ c, ms[i]? = some c := ⟨ms[i]'(by have := HM.out.len; omega), List.getElem?_eq_getElem _⟩
                  obtain ⟨bl, ol, rfl, hcell⟩ := HM.out.lc.at hc
                  have hcm := HM.out.came hc
                  have hst := sumN_take hc
                  have hsl := sumN_le ms (i + 1)
                  have hsz := HM.out.sz
                  have hs1 := (HT1.out.swap.like (same_drew w5)).step c hcm (by omega) (by omega)
                  rw [← hst] at hs1
                  obtain ⟨kd, nm, cn, sd, nn, ⟨da, dn, dc, dz⟩⟩ := c
                  obtain ⟨f0, f1, f2, f3, f4, f5⟩ := hcell w5.drew (HT1.out.bel.drew)
                  have HCL : Hid (∀ W, Below w.heap.size w W → W.cell? ⟨bl, ol + i * 6, none⟩ = some (.int .i64 kd) ∧ W.cell? ⟨bl, ol + i * 6 + 1, none⟩ = some (.string nm) ∧ W.cell? ⟨bl, ol + i * 6 + 2, none⟩ = some (.int .i64 cn) ∧ W.cell? ⟨bl, ol + i * 6 + 3, none⟩ = some (.int .i64 sd) ∧ W.cell? ⟨bl, ol + i * 6 + 4, none⟩ = some (.int .i64 nn) ∧ W.cell? ⟨bl, ol + i * 6 + 5, none⟩ = some (.slice da dn dc)) := hcell
                  have HS1 : Hid (Calls Try.prog 8 #[.pointer (some ⟨w.heap.size + 1, 0, none⟩), .pointer (some ⟨w.heap.size + 1 + 1 + 1, 0, none⟩), .agg #[.int .i64 kd, .string nm, .int .i64 cn, .int .i64 sd, .int .i64 nn, .slice da dn dc]] w5.drew fun e W' => e = .returned (.bool true) ∧ Below w.heap.size w W' ∧ ∃ E : Int, Calls Try.prog 9 #[.pointer (some ⟨w.heap.size + 1, 0, none⟩), .int .i64 cn, .int .i64 sd] W' (fun e w1 => w1 = W' ∧ e = .returned (.int .i64 E)) ∧ Calls Try.prog 10 #[.pointer (some ⟨w.heap.size + 1 + 1 + 1, 0, none⟩), .int .i64 cn, .int .i64 sd] W' fun e w2 => e = .returned (.int .i64 E) ∧ Below w.heap.size w w2 ∧ ∃ ox, Two w w2 ox oa1 (some ⟨w.heap.size + 1, 0, none⟩) (some ⟨w.heap.size + 1 + 1 + 1, 0, none⟩) A P (sumN (ms.take (i + 1))) (i + 1) (sumN (ls.take (i + 1))) (i + 1)) := hs1
                  clear hs1 hcm hst hsl hsz hc hcell
                  go_wp2_with fail
                  go_region_held3 (fun w' => w'.cell? ⟨bl, ol + i * 6, none⟩ = some (.int .i64 kd) ∧ w'.cell? ⟨bl, ol + i * 6 + 1, none⟩ = some (.string nm) ∧ w'.cell? ⟨bl, ol + i * 6 + 2, none⟩ = some (.int .i64 cn) ∧ w'.cell? ⟨bl, ol + i * 6 + 3, none⟩ = some (.int .i64 sd) ∧ w'.cell? ⟨bl, ol + i * 6 + 4, none⟩ = some (.int .i64 nn) ∧ w'.cell? ⟨bl, ol + i * 6 + 5, none⟩ = some (.slice da dn dc)) (go_keep) (first | (go_at_call 8; refine HS1.out.mono ?_; rintro e W1 ⟨rfl, hb1, E, hu1, hu2⟩; have HU1 : Hid (Calls Try.prog 9 #[.pointer (some ⟨w.heap.size + 1, 0, none⟩), .int .i64 cn, .int .i64 sd] W1 (fun e w1 => w1 = W1 ∧ e = .returned (.int .i64 E))) := hu1; have HU2 : Hid (Calls Try.prog 10 #[.pointer (some ⟨w.heap.size + 1 + 1 + 1, 0, none⟩), .int .i64 cn, .int .i64 sd] W1 fun e w2 => e = .returned (.int .i64 E) ∧ Below w.heap.size w w2 ∧ ∃ ox, Two w w2 ox oa1 (some ⟨w.heap.size + 1, 0, none⟩) (some ⟨w.heap.size + 1 + 1 + 1, 0, none⟩) A P (sumN (ms.take (i + 1))) (i + 1) (sumN (ls.take (i + 1))) (i + 1)) := hu2; obtain ⟨g0, g1, g2, g3, g4, g5⟩ := HCL.out W1 hb1; clear hb1 hu1 hu2) | (go_at_call 9; refine HU1.out.mono ?_; rintro e W2 ⟨hw, rfl⟩; have hw := hw.symm; subst hw) | (go_at_call 10; refine HU2.out.mono ?_; rintro e W3 ⟨rfl, hb3, ox, ht⟩; have HT3 : Hid (Two w W3 ox oa1 (some ⟨w.heap.size + 1, 0, none⟩) (some ⟨w.heap.size + 1 + 1 + 1, 0, none⟩) A P (sumN (ms.take (i + 1))) (i + 1) (sumN (ls.take (i + 1))) (i + 1)) := ht; obtain ⟨j0, j1, j2, j3, j4, j5⟩ := HCL.out W3 hb3; clear hb3 ht))
                  go_wp2_with fail
                  go_meet
                  case rel => exact ⟨rfl, ox, HT3⟩
                · have hii : ¬ (i : Int) < m := by omega
                  go_wp2_with fail
                  go_quiet (fail)
                  go_wp2_with fail
                  go_meet
                  case rel => exact ⟨rfl, _, ((HT1.out.swap.more (Nat.le_of_eq (sum_more HM.out.len hi).symm) (Nat.le_succ _)).like ⟨rfl, rfl, rfl, rfl⟩)⟩
            case rest =>
              obtain ⟨rfl, ob1, HT2⟩ := hcut
              go_wp2_with fail
              case roundEnd => exact ⟨⟨i + 1, oa1, ob1, by omega, rfl, HT2.out.swap⟩, by simp [intOf]; omega⟩
      · have h1' : ¬ (i : Int) < n := by omega
        have h2' : ¬ (i : Int) < m := by omega
        have HB : Hid (∀ q, Below w.heap.size w (wr.drewN q)) := fun q => below_drewN HT.out.bel q
        rcases HT.out.swap.conns with ⟨_, hB0, _⟩ | ⟨nb, xb, yb, ab, cb', hnb, hBe, hQe, hcb, hCb⟩
        · cases hB0
        · cases hBe
          cases hQe
          have HCb : ∀ q, Calls Try.prog 11 #[.pointer (some ⟨w.heap.size + 1, 0, none⟩)] (wr.drewN q) fun e w' => e = .returned (.int .i64 nb) ∧ w' = wr.drewN q := fun q => (hCb (wr.drewN q) ⟨rfl, rfl, rfl, rfl⟩).mono fun e w' ⟨h1, h2⟩ => ⟨h2, h1⟩
          clear hCb
          rcases HT.out.conns with ⟨_, hA0, hP0⟩ | ⟨na, xa, ya, aa, ca', hna, hAe, hPe, hca, hCa⟩
          · subst hA0
            subst hP0
            have HCa : ∀ q, Calls Try.prog 11 #[.pointer none] (wr.drewN q) fun e w' => e = .returned (.int .i64 0) ∧ w' = wr.drewN q := fun q => (conns_nil _).mono fun e w' ⟨h1, h2⟩ => ⟨h2, h1⟩
            go_wp2_with fail
            go_quiet (first | exact Calls.quiet_of_same (HCa _) | exact Calls.quiet_of_same (HCb _))
            go_wp2_with fail
            go_ret
            exact ⟨rfl, HB.out _⟩
          · subst hAe
            subst hPe
            have HCa : ∀ q, Calls Try.prog 11 #[.pointer (some ⟨xa, 0, none⟩)] (wr.drewN q) fun e w' => e = .returned (.int .i64 na) ∧ w' = wr.drewN q := fun q => (hCa (wr.drewN q) ⟨rfl, rfl, rfl, rfl⟩).mono fun e w' ⟨h1, h2⟩ => ⟨h2, h1⟩
            clear hCa
            go_wp2_with fail
            go_quiet (first | exact Calls.quiet_of_same (HCa _) | exact Calls.quiet_of_same (HCb _))
            go_wp2_with fail
            go_ret
            exact ⟨rfl, HB.out _⟩
end Go.Proofs.Ytcbnmoppnoiggaa
