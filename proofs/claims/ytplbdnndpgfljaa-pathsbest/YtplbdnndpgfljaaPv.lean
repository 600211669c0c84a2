/-
  The document's best of several patterns, by definition.
-/
import Derived.Test.YtplbdnndpgfljaaPu
import Derived.Test.YtplbdnndpgfljaaPn
import Derived.Deep.RegionHeld3
namespace Go.Proofs.Ytplbdnndpgfljaa
open Go.RowKit
set_option linter.unusedVariables false
set_option linter.unusedSimpArgs false
set_option maxRecDepth 100000
/-- number k stands ahead of number m, and takes the host -/
def btB (s : List UInt8) (ds : List (List UInt8)) (k m : Nat) : Bool := hostM (ds.getD k []) s && (decide (ordM (ds.getD k []) (ds.getD m []) < 0) || (ordM (ds.getD k []) (ds.getD m []) == 0 && decide (k < m)))
def okF (s : List UInt8) (ds : List (List UInt8)) (m : Nat) : Nat → Bool
  | 0 => hostM (ds.getD m []) s
  | k + 1 => okF s ds m k && !btB s ds k m
theorem okF_mono {s : List UInt8} {ds : List (List UInt8)} {m k : Nat} (h : okF s ds m k = false) : ∀ j, okF s ds m (k + j) = false
  | 0 => h
  | j + 1 => by rw [← Nat.add_assoc, okF, okF_mono h j]; rfl
theorem okF_iff (s : List UInt8) (ds : List (List UInt8)) (m : Nat) : ∀ k, okF s ds m k = true ↔ hostM (ds.getD m []) s = true ∧ ∀ j, j < k → btB s ds j m = false
  | 0 => ⟨fun h => ⟨h, fun j hj => by omega⟩, fun h => h.1⟩
  | k + 1 => by
    rw [okF, Bool.and_eq_true, okF_iff s ds m k]
    constructor
    · rintro ⟨⟨h1, h2⟩, h3⟩
      refine ⟨h1, fun j hj => ?_⟩
      rcases Nat.lt_succ_iff_lt_or_eq.1 hj with h | rfl
      · exact h2 j h
      · simpa using h3
    · rintro ⟨h1, h2⟩
      exact ⟨⟨h1, fun j hj => h2 j (by omega)⟩, by simp [h2 k (by omega)]⟩
/-- what the document's Best answers -/
def RB (s : List UInt8) (ds : List (List UInt8)) (n : Nat) (e : Ending) : Prop :=
  (e = .returned (.tuple #[.int .i64 0, .bool false]) ∧ ∀ m, m < n → okF s ds m n = false) ∨
  ∃ m : Nat, e = .returned (.tuple #[.int .i64 m, .bool true]) ∧ m < n ∧ okF s ds m n = true ∧ ∀ j, j < m → okF s ds j n = false
theorem RB.best {s : List UInt8} {ds : List (List UInt8)} {n : Nat} {e : Ending} (hn : ds.length = n) (h : RB s ds n e) :
    e = .returned (.tuple #[.int .i64 (if hostB s then (bstS (fldF s) ds n).1 else 0), .bool (hostB s && !((bstS (fldF s) ds n).2.1 == 3))]) := by
  have gd : ∀ {j d}, ds[j]? = some d → ds.getD j [] = d := fun h => by simp [List.getD, h]
  have BS := best_spec ds s
  rw [hn] at BS
  rcases BS with ⟨e1, e2, hno⟩ | ⟨i, di, hi, e1, e2, hti, hall⟩
  · rw [e1, e2]
    rcases h with ⟨h, _⟩ | ⟨m, h1, h2, h3, h4⟩
    · exact h
    · exfalso
      have := ((okF_iff s ds m n).1 h3).1
      have hm : ds[m]? = some ds[m] := List.getElem?_eq_getElem (by omega)
      rw [gd hm, hno _ (List.mem_of_getElem? hm)] at this
      cases this
  · rw [e1, e2]
    have hin : i < n := by have := (List.getElem?_eq_some_iff.1 hi).1; omega
    have hok : okF s ds i n = true := by
      rw [okF_iff]
      refine ⟨by rw [gd hi]; exact hti, fun j hj => ?_⟩
      have hj' : ds[j]? = some ds[j] := List.getElem?_eq_getElem (by omega)
      cases hb : btB s ds j i with
      | false => rfl
      | true =>
        unfold btB at hb
        rw [gd hj', gd hi] at hb
        simp only [Bool.and_eq_true, Bool.or_eq_true, decide_eq_true_eq, beq_iff_eq] at hb
        have := hall j _ hj' hb.1
        rcases hb.2 with h | ⟨h, h'⟩
        · omega
        · have := this.2 h'; omega
    rcases h with ⟨_, h⟩ | ⟨m, h1, h2, h3, h4⟩
    · rw [h i hin] at hok; cases hok
    · rcases Nat.lt_trichotomy m i with hlt | rfl | hgt
      · exfalso
        obtain ⟨a1, a2⟩ := (okF_iff s ds m n).1 h3
        have hm : ds[m]? = some ds[m] := List.getElem?_eq_getElem (by omega)
        rw [gd hm] at a1
        have b1 := (hall m _ hm a1).2 hlt
        have b2 := a2 i hin
        unfold btB at b2
        rw [gd hm, gd hi, hti] at b2
        have b3 : ordM di ds[m] < 0 := by
          have : ordM di ds[m] = - ordM ds[m] di := cmp_neg _ _
          omega
        simp [b3] at b2
      · exact h1
      · rw [h4 i hgt] at hok; cases hok
set_option maxHeartbeats 8000000 in
theorem rbest_any (w : World) (a : Option Addr) (n cn : Nat) (ds : List (List UInt8)) (s : List UInt8) (hn : ds.length = n) (hl : n ≤ 140737488351232) (hS : Strs w a ds) (hs : ∀ d ∈ ds, d.length ≤ 2 ^ 61) (h2 : s.length ≤ 2 ^ 61) :
    Calls Try.prog 32 #[.slice a n cn, .string ⟨s.toArray⟩] w fun e w' => RB s ds n e ∧ Below w.heap.size w w' := by
  have hhost : Hid (∀ (w : World) (k : Nat) (d : List UInt8), ds[k]? = some d → Calls Try.prog 18 #[.string ⟨d.toArray⟩, .string ⟨s.toArray⟩] w fun e w' => e = .returned (.bool (hostM d s)) ∧ Below w.heap.size w w') := hide2 (fun w k d hd => rhost_any d s w (hs d (List.mem_of_getElem? hd)) h2)
  have hord : Hid (∀ (w : World) (k i : Nat) (d di : List UInt8), ds[k]? = some d → ds[i]? = some di → Calls Try.prog 30 #[.string ⟨d.toArray⟩, .string ⟨di.toArray⟩] w fun e w' => e = .returned (.int .i64 (ordM d di)) ∧ Below w.heap.size w w') := hide2 (fun w k i d di hd hdi => rorder_any d di w (by have := hs d (List.mem_of_getElem? hd); omega) (by have := hs di (List.mem_of_getElem? hdi); omega))
  have HS := hide2 hS
  have HN := hide2 hn
  clear hS hn hs
  have GD : Hid (∀ {j d}, ds[j]? = some d → ds.getD j [] = d) := hide2 (fun h => by simp [List.getD, h])
  go_enter Try.func32, Try.ntmps32
  go_wp2_with fail
  go_loopw [6] (fun t wr => ∃ (m : Nat), t = .int .i64 m ∧ m ≤ n ∧ Hid (Below w.heap.size w wr) ∧ Hid (∀ j, j < m → okF s ds j n = false)) (fun t _ => n - (intOf t).toNat)
  case atStart => exact ⟨0, rfl, by omega, Below.refl _ _, hide2 (fun j hj => by omega)⟩
  case round =>
    obtain ⟨m, rfl, hm, HB, HO⟩ := hrel
    have m0 : (0 : Int) ≤ m := by omega
    by_cases h3 : m < n
    · have h3' : (m : Int) < n := by omega
      rcases hmi : ds[m]? with _ | dm
      · have := List.getElem?_eq_none_iff.1 hmi; have := HN.out; omega
      have HM := hide2 hmi
      have HSm := hide2 (HS.out.below HB.out)
      obtain ⟨x, hx, hcx⟩ := HSm.out.at_ hmi
      subst hx
      have hC := fun w => hhost.out w m dm hmi
      have e0 : okF s ds m 0 = hostM dm s := by rw [okF, GD.out hmi]
      rw [← e0] at hC
      clear hmi e0
      go_wp2_with fail
      refine (hC _).mono ?_
      rintro e w1 ⟨rfl, hb⟩
      have HB1 := hide2 (below_two HB.out hb)
      clear hb hcx HSm
      go_wp2_with fail
      go_loopw [7, 8] (fun u t wr => ∃ (k : Nat), t = .int .i64 k ∧ u = .bool (okF s ds m k) ∧ k ≤ n ∧ Hid (Below w.heap.size w wr)) (fun _ t _ => n - (intOf t).toNat)
      case atStart => exact ⟨0, rfl, rfl, by omega, HB1⟩
      case round =>
        obtain ⟨k, rfl, rfl, hk, HBk⟩ := hrel
        have k0 : (0 : Int) ≤ k := by omega
        cases hok : okF s ds m k with
        | false =>
          have HF : Hid (okF s ds m n = false) := hide2 (by have := okF_mono hok (n - k); rwa [Nat.add_sub_of_le hk] at this)
          clear hok
          by_cases h4 : k < n
          · have h4' : (k : Int) < n := by omega
            go_wp2_with fail
            go_roundw
            case rel => exact ⟨m + 1, by go_num, by omega, HBk, hide2 (fun j hj => by rcases Nat.lt_succ_iff_lt_or_eq.1 hj with h | h; (exact HO.out j h); (subst h; exact HF.out))⟩
            case measure => simp [intOf]; omega
          · have h4' : ¬ (k : Int) < n := by omega
            go_wp2_with fail
            go_roundw
            case rel => exact ⟨m + 1, by go_num, by omega, HBk, hide2 (fun j hj => by rcases Nat.lt_succ_iff_lt_or_eq.1 hj with h | h; (exact HO.out j h); (subst h; exact HF.out))⟩
            case measure => simp [intOf]; omega
        | true =>
          by_cases h4 : k < n
          · have h4' : (k : Int) < n := by omega
            rcases hki : ds[k]? with _ | d
            · have := List.getElem?_eq_none_iff.1 hki; have := HN.out; omega
            have HK := hide2 hki
            have hSt : okF s ds m (k + 1) = !(hostM d s && (decide (ordM d dm < 0) || (ordM d dm == 0 && decide (k < m)))) := by
              rw [okF, hok, btB, GD.out hki, GD.out HM.out]; rfl
            have HSt := hide2 hSt
            have hC := fun w => hhost.out w k d hki
            have hO := fun w => hord.out w k m d dm hki HM.out
            have HSk := hide2 (HS.out.below HBk.out)
            obtain ⟨y, hy, hck⟩ := HSk.out.at_ hki
            cases hy
            obtain ⟨y, hy, hcm⟩ := HSk.out.at_ HM.out
            cases hy
            clear hSt hki hok
            generalize ordM d dm = o at *
            generalize hostM d s = h at *
            go_wp2_with fail
            go_region_held3 (fun w' => w'.cell? (x.add k) = some (.string ⟨d.toArray⟩) ∧ w'.cell? (x.add m) = some (.string ⟨dm.toArray⟩)) (go_keep) (first | (go_at_call 30; refine (hO _).mono ?_; rintro e w6 ⟨rfl, hb6⟩; have e1 := cell_of_below hb6 hck; have e2 := cell_of_below hb6 hcm))
            have HB6 := hide2 (below_two HBk.out (⟨hb6.os, hb6.tape, hb6.output, hb6.size, hb6.block⟩ : Below wr.heap.size wr w6))
            clear hb6 hck hcm HSk e2 hO
            go_wp2_with fail
            refine (hC _).mono ?_
            rintro e w7 ⟨rfl, hb⟩
            have HB7 := hide2 (below_two HB6.out hb)
            clear hb e1 hC HB6
            cases h with
            | false =>
              go_wp2_with fail
              go_roundw
              case rel => exact ⟨k + 1, by go_num, by rw [HSt.out]; first | rfl | simp [], by omega, HB7⟩
              case measure => simp [intOf]; omega
            | true =>
              by_cases ho : o < 0
              · have d1 : decide (o < 0) = true := decide_eq_true ho
                go_wp2_with fail
                go_roundw
                case rel => exact ⟨k + 1, by go_num, by rw [HSt.out]; first | rfl | simp [d1], by omega, HB7⟩
                case measure => simp [intOf]; omega
              · have d1 : decide (o < 0) = false := decide_eq_false ho
                by_cases hz : o = 0
                · subst hz
                  by_cases hkm : k < m
                  · have hkm' : (k : Int) < m := by omega
                    go_wp2_with fail
                    go_roundw
                    case rel => exact ⟨k + 1, by go_num, by rw [HSt.out]; first | rfl | simp [hkm], by omega, HB7⟩
                    case measure => simp [intOf]; omega
                  · have hkm' : ¬ (k : Int) < m := by omega
                    go_wp2_with fail
                    go_roundw
                    case rel => exact ⟨k + 1, by go_num, by rw [HSt.out]; first | rfl | simp [hkm], by omega, HB7⟩
                    case measure => simp [intOf]; omega
                · have d2 : (o == 0) = false := by simp [hz]
                  have HZ := hide2 hz
                  clear hz
                  go_wp2_with fail
                  go_roundw
                  case rel => exact ⟨k + 1, by go_num, by rw [HSt.out]; first | rfl | simp [d1, d2], by omega, HB7⟩
                  case measure => simp [intOf]; omega
          · have h4' : ¬ (k : Int) < n := by omega
            have hkn : k = n := by omega
            have HT : Hid (okF s ds m n = true) := hide2 (hkn ▸ hok)
            clear hok hkn
            go_wp2
            go_ret2
            exact ⟨.inr ⟨m, rfl, h3, HT.out, HO.out⟩, HBk.out⟩
    · have h3' : ¬ (m : Int) < n := by omega
      go_wp2
      go_ret2
      exact ⟨.inl ⟨rfl, fun j hj => HO.out j (by omega)⟩, HB.out⟩
end Go.Proofs.Ytplbdnndpgfljaa
