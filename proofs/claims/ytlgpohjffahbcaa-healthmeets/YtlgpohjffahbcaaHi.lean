/- Both states behind a run. -/
import Derived.Test.YtlgpohjffahbcaaHh
namespace Go.Proofs.Ytlgpohjffahbcaa
open Go.RowKit Ieee
set_option linter.unusedVariables false
set_option linter.unusedSimpArgs false
theorem Rin.below {w w' : World} {r : Ru} (h : Rin w r) (g : Below w.heap.size w w') : Rin w' r := ⟨⟨h.p.cel.below g, h.p.ok, h.p.len⟩, h.r1, h.f1, h.c1⟩
theorem Pin.at_ {w : World} {a : Option Addr} {c : Nat} {L : List (Bool × Nat)} (h : Pin w a c L) {k : Nat} (hk : k < L.length) : ∃ g off, a = some ⟨g, off, none⟩ ∧ w.cell? ⟨g, off + k * 2, none⟩ = some (.bool (L.getD k (false, 0)).1) ∧ w.cell? ⟨g, off + k * 2 + 1, none⟩ = some (.float .f64 (L.getD k (false, 0)).2) ∧ (L.getD k (false, 0)).2 < 18446744073709551616 := by
  have hx : L[k]? = some (L.getD k (false, 0)) := by rw [List.getD_eq_getElem?_getD, List.getElem?_eq_getElem hk]; rfl
  obtain ⟨g, off, e, hc⟩ := h.cel.at_ hx
  exact ⟨g, off, e, hc 0 _ rfl, hc 1 _ rfl, h.ok _ (List.mem_of_getElem? hx)⟩
def runO (r : Ru) (n : Nat) : Dt := if r.none then none else bothO r n
/-- what both answers -/
def BothE (w w' : World) (r : Ru) (e : Ending) : Prop := ∃ v b u bs, e = .returned (.tuple #[v, u]) ∧ Two w' (w.heap.size + 1) v b u bs (runO r 200) ∧ Below w.heap.size w w'
set_option maxRecDepth 100000 in
set_option maxHeartbeats 4000000 in
theorem both_any (r : Ru) (w : World) (hR : Rin w r) : Calls Try.prog 16 #[r.val] w fun e w' => BothE w w' r e := by
  obtain ⟨wb, hwb⟩ : ∃ wb, w.alloc (.cells #[.int .i64 r.rise, .int .i64 r.fall, .slice r.a r.L.length r.c, .int .i64 r.cp, .bool r.none] 24 (0, 0)) = wb := ⟨_, rfl⟩
  have hB : Below w.heap.size w wb := hwb ▸ (Below.refl _ w).alloc (Nat.le_refl _) _
  have hsz : wb.heap.size = w.heap.size + 1 := by rw [← hwb]; exact Array.size_push _
  have hbk : wb.heap[w.heap.size]? = some (.cells #[.int .i64 r.rise, .int .i64 r.fall, .slice r.a r.L.length r.c, .int .i64 r.cp, .bool r.none] 24 (0, 0)) := hwb ▸ Go.heap_alloc_new _ _
  have m0 : wb.cell? ⟨w.heap.size, 0, none⟩ = some (.int .i64 r.rise) := by simp [World.cell?, hbk]
  have m1 : wb.cell? ⟨w.heap.size, 1, none⟩ = some (.int .i64 r.fall) := by simp [World.cell?, hbk]
  have HRb := hide2 (hR.below hB)
  have hnew := new_two r w wb hR
  have HM := hide2 hbk
  have HB := hide2 hB
  have HS := hide2 hsz
  have HR := hide2 hR
  unfold Ru.val
  clear hbk hB hsz hR
  go_enter Try.func16, Try.ntmps16
  go_wp2_with fail
  refine hnew.mono ?_
  rintro e w1 ⟨v, b, rfl, hpv, hbb, hb1, -⟩
  have HB1 := hide2 hb1
  have HPV := hide2 hpv
  have HBB := hide2 hbb
  have n0 := cell_of_below hb1 m0
  have n1 := cell_of_below hb1 m1
  have hrn := rnew_two r w w1 HR.out
  clear hnew hpv hbb hb1 m0 m1 hwb
  go_wp2_with fail
  refine hrn.mono ?_
  rintro e w2 ⟨u, bs, rfl, hrd, hbs, hb2, -⟩
  have hall : Below wb.heap.size wb w2 := HB1.out.trans (hb2.mono HB1.out.size)
  have HALL := hide2 hall
  have hT : Two w2 (w.heap.size + 1) v b u bs (bothO r 0) := by
    refine ⟨HPV.out.below hb2, hrd _ (by have := HB1.out.size; have := HS.out; omega), (fun k hk => ?_)⟩
    have h1 := HBB.out k hk
    have h3 := HPV.out.lt k hk
    refine ⟨by have := HS.out; omega, fun hm => by have := hbs k hm; omega⟩
  have HT := hide2 hT
  have hk2 : w2.heap[w.heap.size]? = some (.cells #[.int .i64 r.rise, .int .i64 r.fall, .slice r.a r.L.length r.c, .int .i64 r.cp, .bool r.none] 24 (0, 0)) := (hall.block _ (by have := HS.out; omega)).trans HM.out
  have HK2 := hide2 hk2
  have c2 : w2.cell? ⟨w.heap.size, 2, none⟩ = some (.slice r.a r.L.length r.c) := by simp [World.cell?, hk2]
  have c4 : w2.cell? ⟨w.heap.size, 4, none⟩ = some (.bool r.none) := by simp [World.cell?, hk2]
  have HRO : Hid (Rin w r) := HR
  clear hrn hrd hbs hb2 hall hT hk2 n0 n1 HPV HBB
  cases hno : r.none with
  | true =>
    rw [hno] at c4
    have HE : Hid (runO r 200 = none) := by unfold Hid runO; rw [hno]; rfl
    clear hno
    go_wp2_with fail
    go_ret2
    refine ⟨_, none, _, [], rfl, ?_, HB.out.trans (HALL.out.mono HB.out.size)⟩
    rw [HE.out]
    exact ⟨.nil, .nil, (fun k hk => by cases hk)⟩
  | false =>
    rw [hno] at c4
    have HE : Hid (runO r 200 = bothO r 200) := by unfold Hid runO; rw [hno]; rfl
    clear hno
    obtain ⟨n, hn⟩ : ∃ n, r.L.length = n := ⟨_, rfl⟩
    have HN := hide2 hn
    have hnl : n ≤ 140737488355328 := by rw [← hn]; exact HR.out.p.len
    rw [hn] at c2
    clear hn
    have HCell : Hid (∀ wx, Below (w.heap.size + 1) w2 wx → wx.cell? ⟨w.heap.size, 2, none⟩ = some (.slice r.a n r.c)) := fun wx hx => (hx.cell (p := ⟨w.heap.size, 2, none⟩) (by simp)).trans c2
    have HW2 : Hid (Below w.heap.size w w2) := HB.out.trans (HALL.out.mono HB.out.size)
    have HBZ : Hid (w.heap.size + 1 ≤ w2.heap.size) := by have := HALL.out.size; have := HS.out; unfold Hid; omega
    go_wp2_with fail
    go_loopw [8] (fun t wr => ∃ k : Nat, k ≤ n ∧ k ≤ 200 ∧ t = .int .i64 k ∧ Hid (∃ bs', Two wr (w.heap.size + 1) v b u bs' (bothO r k) ∧ Below (w.heap.size + 1) w2 wr)) (fun t _ => n - (intOf t).toNat)
    case atStart => exact ⟨0, by omega, by omega, rfl, (⟨bs, HT.out, Below.refl _ _⟩ : ∃ bs', Two w2 (w.heap.size + 1) v b u bs' (bothO r 0) ∧ Below (w.heap.size + 1) w2 w2)⟩
    case round =>
      obtain ⟨k, hk, hk2, rfl, HV⟩ := hrel
      obtain ⟨bs1, hT1, hB1⟩ := HV.out
      have HT1 := hide2 hT1
      have HBB := hide2 hB1
      have d2 := HCell.out wr hB1
      have k0 : (0 : Int) ≤ k := by omega
      by_cases hlt : k < n ∧ k < 200
      · obtain ⟨h1, h2⟩ := hlt
        obtain ⟨g, off, ha, q1, q2, hq⟩ := (HR.out.below HW2.out).p.at_ (k := k) (by have := HN.out; omega)
        have hg : g < w.heap.size := by
          obtain ⟨g', off', ha', q1', _⟩ := HR.out.p.at_ (k := k) (by have := HN.out; omega)
          rw [ha] at ha'; cases ha'
          exact World.block_lt_of_cell? w _ q1'
        obtain ⟨⟨ok, t⟩, hp⟩ : ∃ p, r.L.getD k (false, 0) = p := ⟨_, rfl⟩
        have HP := hide2 hp
        rw [hp] at q1 q2 hq
        rw [ha] at d2
        have HC2 : Hid (∀ wx, Below (w.heap.size + 1) w2 wx → wx.cell? ⟨w.heap.size, 2, none⟩ = some (.slice (some ⟨g, off, none⟩) n r.c) ∧ wx.cell? ⟨g, off + k * 2, none⟩ = some (.bool ok) ∧ wx.cell? ⟨g, off + k * 2 + 1, none⟩ = some (.float .f64 t)) := fun wx hx => ⟨ha ▸ HCell.out wx hx, (hx.cell (p := ⟨g, off + k * 2, none⟩) (by show g < w.heap.size + 1; omega)).trans q1, (hx.cell (p := ⟨g, off + k * 2 + 1, none⟩) (by show g < w.heap.size + 1; omega)).trans q2⟩
        obtain ⟨e2, e3, e4⟩ := HC2.out wr hB1
        have hO := bothO_ok HR.out k
        have HO := hide2 hO
        have HP1 := hide2 (pprobe_any v b (stO (bothO r k)) k ok t wr.drew (HT1.out.drew.pv) hO.st (by omega) hq)
        have hd : Below (w.heap.size + 1) w2 wr.drew := hB1.trans (Below.refl _ _).drew
        have HD := hide2 hd
        have k1 : (k : Int) < n := by omega
        have k2 : (k : Int) < 200 := by omega
        have HQ := hide2 (And.intro hq (And.intro h1 h2))
        clear hT1 hB1 d2 q1 q2 hq hg hp hO hd h1 h2 ha c2 c4 hk hk2
        go_wp2_with fail
        go_region_held3 (fun w' => w'.cell? ⟨w.heap.size, 2, none⟩ = some (.slice (some ⟨g, off, none⟩) n r.c) ∧ w'.cell? ⟨g, off + k * 2, none⟩ = some (.bool ok) ∧ w'.cell? ⟨g, off + k * 2 + 1, none⟩ = some (.float .f64 t)) (go_keep)
          (first | (go_at_call 11; refine HP1.out.mono ?_; rintro e w3 ⟨rfl, hp3, hs3⟩; have HM3 := hide2 (HT1.out.drew.half hp3 hs3); have hb3 := HD.out.trans (hs3.below (fun k hk => (HT1.out.apart k (by simpa using hk)).1) (Nat.le_trans HBZ.out HD.out.size)); have HB3 := hide2 hb3; obtain ⟨f2, f3, f4⟩ := HC2.out w3 hb3; clear hp3 hs3 hb3))
        have HP2 := hide2 (rprobeD_any (w.heap.size + 1) u bs1 (bothO r k) ok t w3.drew HM3.out.drew.rd (Nat.le_trans HBZ.out HB3.out.size) (fun x hx => by have := HO.out.len x hx; have := HQ.out; omega))
        have hd3 : Below (w.heap.size + 1) w2 w3.drew := HB3.out.trans (Below.refl _ _).drew
        have HD3 := hide2 hd3
        clear hd3 e2 e3 e4
        go_wp2_with fail
        go_region_held3 (fun w' => w'.cell? ⟨w.heap.size, 2, none⟩ = some (.slice (some ⟨g, off, none⟩) n r.c) ∧ w'.cell? ⟨g, off + k * 2, none⟩ = some (.bool ok) ∧ w'.cell? ⟨g, off + k * 2 + 1, none⟩ = some (.float .f64 t)) (go_keep)
          (first | (go_at_call 12; refine HP2.out.mono ?_; rintro e w4 ⟨rfl, bs4, hr4, hs4⟩; have HM4 := hide2 (HM3.out.drew.whole hr4 hs4); have hb4 := HD3.out.trans (hs4.below (fun k hk => (HM3.out.rd.lt k hk).1) (Nat.le_trans HBZ.out HD3.out.size)); have HB4 := hide2 hb4; obtain ⟨j2, j3, j4⟩ := HC2.out w4 hb4; clear hr4 hs4 hb4))
        go_wp2
        go_roundw
        case rel =>
          refine ⟨k + 1, by have := HQ.out; omega, by have := HQ.out; omega, by go_num, (⟨bs4, ?_, HB4.out⟩ : ∃ bs', Two w4 (w.heap.size + 1) v b u bs' (bothO r (k + 1)) ∧ Below (w.heap.size + 1) w2 w4)⟩
          rw [bothO_more r k (by have := HQ.out; have := HN.out; omega), HP.out]
          exact HM4.out
        case measure => simp [intOf]; have := HQ.out; omega
      · have hend : bothO r k = bothO r 200 := by
          unfold bothO
          rcases Nat.lt_or_ge k n with h | h
          · have : k = 200 := by omega
            rw [this]
          · have := HN.out
            rw [List.take_of_length_le (by omega), List.take_of_length_le (by omega)]
        have HEND := hide2 hend
        have hge : ¬ ((k : Int) < n) ∨ (k : Int) < n ∧ ¬ (k : Int) < 200 := by omega
        clear hT1 hB1 hend c2 c4
        rcases hge with hge | ⟨hge, hge2⟩
        · clear hlt hk hk2
          go_wp2_with fail
          go_ret2
          refine ⟨v, b, u, bs1, rfl, ?_, HW2.out.trans (HBB.out.mono (by omega))⟩
          rw [HE.out, ← HEND.out]
          exact HT1.out
        · clear hlt hk hk2
          go_wp2_with fail
          go_ret2
          refine ⟨v, b, u, bs1, rfl, ?_, HW2.out.trans (HBB.out.mono (by omega))⟩
          rw [HE.out, ← HEND.out]
          exact HT1.out
end Go.Proofs.Ytlgpohjffahbcaa
