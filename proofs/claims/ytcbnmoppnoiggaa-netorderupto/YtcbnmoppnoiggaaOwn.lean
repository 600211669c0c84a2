/-
  NetOwn.
-/
import Derived.Test.YtcbnmoppnoiggaaApt
namespace Go.Proofs.Ytcbnmoppnoiggaa
open Go.RowKit
set_option linter.unusedVariables false
set_option linter.unusedSimpArgs false
def SO (us ar : List Int) : Md := ⟨⟨#[97]⟩, true, false, ⟨us, [], false, false⟩, ⟨[], ar, false, false⟩⟩
theorem pass_SO (us : List Int) (k : Nat) (hk : k ≤ us.length) : mPass (SO us []) false k = ((k : Int), 0, SO (us.drop k) (us.take k)) := by
  have hm : mK (SO us []) false k = k := by show (min (k : Int) (us.length : Int)).toNat = k; omega
  unfold mPass
  rw [if_neg (by omega), if_neg (by simp [SO]), hm]
  have : (if k = us.length then false else false) = false := by simp
  show ((k : Int), (0 : Int), (⟨⟨#[97]⟩, true, false, ⟨us.drop k, [], false, if k = us.length then false else false⟩, ⟨[], us.take k, false, false⟩⟩ : Md)) = _
  rw [this]; rfl
theorem pass_SO_all (us : List Int) (k : Nat) (hk : us.length ≤ k) : mPass (SO us []) false k = ((us.length : Int), 0, SO [] us) := by
  have hm : mK (SO us []) false k = us.length := by show (min (k : Int) (us.length : Int)).toNat = us.length; omega
  unfold mPass
  rw [if_neg (by omega), if_neg (by simp [SO]), hm]
  have : (if us.length = us.length then false else false) = false := by simp
  show ((us.length : Int), (0 : Int), (⟨⟨#[97]⟩, true, false, ⟨us.drop us.length, [], false, if us.length = us.length then false else false⟩, ⟨[], us.take us.length, false, false⟩⟩ : Md)) = _
  rw [this]; simp [SO]
theorem read_SO (us ar : List Int) : mRead (SO us ar) true = (ar, false, 0, SO us []) := rfl
theorem write_SO (k : Nat) (zs : List Int) (h : ¬ 1048576 < zs.length) : mWrite (Cn.fresh k ⟨#[97]⟩).m false zs = (0, SO zs []) := by
  have h1 : ¬ 1048576 < ([] : List Int).length + zs.length := by simp; omega
  unfold mWrite
  exact (if_neg (by simp [Cn.m, Cn.fresh])).trans ((if_neg (by simp [Cn.m, Cn.fresh, Md.sd, Sd.m])).trans (if_neg h1))
theorem write_long (k : Nat) (zs : List Int) (h : 1048576 < zs.length) : mWrite (Cn.fresh k ⟨#[97]⟩).m false zs = (3, (Cn.fresh k ⟨#[97]⟩).m) := by
  have h1 : 1048576 < ([] : List Int).length + zs.length := by simp; omega
  unfold mWrite
  exact (if_neg (by simp [Cn.m, Cn.fresh])).trans ((if_neg (by simp [Cn.m, Cn.fresh, Md.sd, Sd.m])).trans (if_pos h1))
theorem has_nil (w : World) (a : Option Addr) : Has w a [] := by
  cases a with
  | none => exact .inl ⟨rfl, rfl⟩
  | some x => exact .inr ⟨x, rfl, fun j hj => by simp at hj⟩
theorem Octets.put {zs : List Int} (h : Octets zs) (k : Nat) (z : Int) (h0 : 0 ≤ z) (h1 : z ≤ 255) : Octets (zs.set k z) := fun i => by
  by_cases hi : i = k ∧ k < zs.length
  · obtain ⟨rfl, hk⟩ := hi
    rw [show (zs.set i z).getD i 0 = z by simp [List.getD, hk]]; exact ⟨h0, h1⟩
  · have : (zs.set k z).getD i 0 = zs.getD i 0 := by
      simp only [List.getD, List.getElem?_set]
      by_cases e : k = i
      · subst e
        have hk : ¬ k < zs.length := fun h => hi ⟨rfl, h⟩
        simp [hk]
      · simp [e]
    rw [this]; exact h i
theorem Apt.at {w : World} {B b : Nat} {row : Value} {cs : List Cn} {av : Option Addr} {nv cv : Nat} {zs : List Int} (h : Apt w B b row cs (.slice av nv cv) zs) (k : Nat) (hk : k < nv) :
    ∃ g off z, av = some ⟨g, off, none⟩ ∧ w.cell? ⟨g, off + k, none⟩ = some (.int .u8 z) ∧ w.frozen? ⟨g, off + k, none⟩ = false ∧ 0 ≤ z ∧ z ≤ 255 := by
  rcases h.buf.2 with ⟨e, _⟩ | ⟨g, off, cap, cur, e, hb, hg, h1, h2, h3, h4⟩
  · cases e; omega
  · cases e
    have := h.buf.1 k
    exact ⟨g, off, _, rfl, h4 k hk, by simp [World.frozen?, hg], this.1, this.2⟩
theorem Apt.put {W w : World} {B b g off k : Nat} {row mv : Value} {cs : List Cn} {nv cv : Nat} {zs : List Int} (h : Apt w B b row cs (.slice (some ⟨g, off, none⟩) nv cv) zs) (N : Net w B b row mv cs) (L : Below B W w) (hk : k < nv) (z : Int) (h0 : 0 ≤ z) (h1 : z ≤ 255) :
    Apt (w.setCell ⟨g, off + k, none⟩ (.int .u8 z)) B b row cs (.slice (some ⟨g, off, none⟩) nv cv) (zs.set k z) ∧ Net (w.setCell ⟨g, off + k, none⟩ (.int .u8 z)) B b row mv cs ∧ Below B W (w.setCell ⟨g, off + k, none⟩ (.int .u8 z)) := by
  have hout := h.out g rfl
  have hlow := (h.buf.low (g := g) rfl).1
  refine ⟨⟨⟨h.buf.1.put k z h0 h1, ?_⟩, h.out⟩, N.far fun j hj => Below.heap_setCell w _ _ j (fun e => hout (by rw [e] at hj; exact hj)), L.setCell (p := ⟨g, off + k, none⟩) hlow _⟩
  rcases h.buf.2 with ⟨e, _⟩ | ⟨g', off', cap, cur, e, hb, hg, h2, h3, h4, h5⟩
  · cases e
  · cases e
    refine .inr ⟨g, off, cv, _, by simp, hb, block_setCell hg (off + k) _, by simpa using h2, h3, by simpa using h4, fun j hj => ?_⟩
    simp at hj
    by_cases hjk : j = k
    · subst hjk
      rw [World.cell?_setCell_same _ _ _ (h5 j hj)]
      simp [List.getD, hj]
    · rw [World.cell?_setCell_other _ _ _ _ (fun e => by have := congrArg Addr.off e; simp at this; omega), h5 j hj]
      have : ¬ k = j := fun e => hjk e.symm
      simp [List.getD, List.getElem?_set, this]
theorem Buf.bare (w : World) (base : Nat) (hb : base ≤ w.heap.size) : Buf (w.alloc (.cells #[] 5)) base (.slice (some ⟨w.heap.size, 0, none⟩) 0 0) [] :=
  ⟨Octets.nil, .inr ⟨w.heap.size, 0, 0, #[], rfl, hb, Go.heap_alloc_new w _, Nat.le_refl _, by decide, by simp, fun j hj => by simp at hj⟩⟩
theorem has_back {w : World} {a : Option Addr} {zs : List Int} (h : Has w a zs) (k : Nat) (hk : k ≤ zs.length) : Has w (Option.map (fun x => x.add k) a) (zs.drop k) := by
  rcases h with ⟨rfl, rfl⟩ | ⟨x, rfl, hB⟩
  · exact .inl ⟨rfl, by simp⟩
  · refine .inr ⟨_, rfl, fun j hj => ?_⟩
    rw [add_add, hB (k + j) (by simp at hj; omega)]
    simp [List.getD]
theorem oct_nine : Octets [1, 2, 3, 4, 5, 6, 7, 8, 9] := fun i => by
  match i with
  | 0 => decide
  | 1 => decide
  | 2 => decide
  | 3 => decide
  | 4 => decide
  | 5 => decide
  | 6 => decide
  | 7 => decide
  | 8 => decide
  | i + 9 => simp
set_option maxRecDepth 100000 in
set_option maxHeartbeats 4000000 in
theorem own_at (W : World) (B : Nat) (hB : W.heap.size = B) (a : Option Addr) (n cap : Nat) (zs : List Int) (hs : Bs W a n cap zs) (a2 : Option Addr) (n2 cap2 : Nat) (zs2 : List Int) (hs2 : Bs W a2 n2 cap2 zs2) :
    Calls Try.prog 6 #[.slice a n cap, .slice a2 n2 cap2] W fun e w' => e = .returned (.bool true) ∧ Below B W w' := by
  obtain ⟨i0, i0i, hz0, hz1, hz2⟩ := info_parts Try.info5
  have HS : Hid (Bs W a n cap zs) := hs
  have HS2 : Hid (Bs W a2 n2 cap2 zs2) := hs2
  have hsm := hs.small
  have hsm2 := hs2.small
  have HSL : Hid (zs.length = n) := hs.len
  have HSL2 : Hid (zs2.length = n2) := hs2.len
  have HB : Hid (W.heap.size = B) := hB
  clear hs hs2 hB
  go_enter Try.func6, Try.ntmps6
  go_wp2_with fail
  refine (awake_any W).mono ?_
  rintro e w0 ⟨rfl, L0'⟩
  rw [HB.out] at L0'
  have L0 : Hid (Below B W w0) := L0'
  have S0 : Hid (B ≤ w0.heap.size) := by have := L0'.size; have := HB.out; show B ≤ w0.heap.size; omega
  clear L0'
  go_wp2_with fail
  have HN := net_new w0 B S0.out
  refine (new_any w0).mono ?_
  rintro e w1 ⟨rfl, hw1⟩
  rw [← hw1] at HN
  have L1 : Hid (Below B W w1) := by rw [hw1]; exact L0.out.alloc S0.out _
  obtain ⟨b, hb⟩ : ∃ b, w0.heap.size = b := ⟨_, rfl⟩
  rw [hb] at HN ⊢
  have N1 : Hid (Net w1 B b (.slice none 0 0) (.map none) []) := HN
  clear HN hw1 hb
  go_wp2_with fail
  refine (dial_ok B b _ none [] ⟨#[97]⟩ w1 N1.out (by decide) (look_none _ (by decide) w1)).mono ?_
  rintro e w2 ⟨rfl, k0, row2, D2⟩
  have N2 : Hid (Net w2 B b row2 (.map none) [Cn.fresh k0 ⟨#[97]⟩]) := D2.net
  have L2 : Hid (Below B W w2) := L1.out.trans (D2.below N1.out)
  clear D2
  go_wp2_with fail
  refine (dial_ok B b _ none [Cn.fresh k0 ⟨#[97]⟩] ⟨#[97]⟩ w2 N2.out (by simp) (look_none _ (by decide) w2)).mono ?_
  rintro e w3 ⟨rfl, k1, row, D3⟩
  have N3 : Hid (Net w3 B b row (.map none) [Cn.fresh k0 ⟨#[97]⟩, Cn.fresh k1 ⟨#[97]⟩]) := D3.net
  have L3 : Hid (Below B W w3) := L2.out.trans (D3.below N2.out)
  clear D3 N1 L1 N2 L2 L0 S0
  have S3 : Hid (B ≤ w3.heap.size) := by have := L3.out.size; have := HB.out; show B ≤ w3.heap.size; omega
  have hB3 : Hid (B ≤ (w3.alloc (.cells #[] 5)).heap.size) := by have := S3.out; show B ≤ _; simp; omega
  have A3 : Hid (Apt (w3.alloc (.cells #[] 5)) B b row [Cn.fresh k0 ⟨#[97]⟩, Cn.fresh k1 ⟨#[97]⟩] (.slice (some ⟨w3.heap.size, 0, none⟩) 0 0) []) := ⟨Buf.bare w3 B S3.out, fun g hg hm => by
    have h1 := (N3.out.lt g hm).2
    cases hg
    exact Nat.lt_irrefl _ h1⟩
  have N3a : Hid (Net (w3.alloc (.cells #[] 5)) B b row (.map none) [Cn.fresh k0 ⟨#[97]⟩, Cn.fresh k1 ⟨#[97]⟩]) := N3.out.alloc _
  have L3a : Hid (Below B W (w3.alloc (.cells #[] 5))) := L3.out.alloc S3.out _
  have hP3 : Hid (Has (w3.alloc (.cells #[] 5)) a zs) := HS.out.has.of_below (by rw [HB.out]; exact L3a.out)
  have hbare := HS.out.bare
  have hoct := HS.out.oct
  have hln : Hid (([] : List Int).length + n ≤ 140737488355328) := by show _ ≤ _; simp; omega
  go_wp2_with (at_builtin; refine wpList_append_buf _ rfl (.tmp 36) (.tmp 37) 32 rfl B i0 Try.underlying32 i0i hz0 hz1 hz2 (.slice (some ⟨w3.heap.size, 0, none⟩) 0 0) [] rfl A3.out.buf a n cap zs rfl HSL.out hbare hP3.out hoct hln.out hB3.out ?_; intro v4 w4 hB4 hg4 hat4; have N4 : Hid (Net w4 B b row (.map none) [Cn.fresh k0 ⟨#[97]⟩, Cn.fresh k1 ⟨#[97]⟩]) := N3a.out.grown hg4 (fun g h => A3.out.out g h); have A4 : Hid (Apt w4 B b row [Cn.fresh k0 ⟨#[97]⟩, Cn.fresh k1 ⟨#[97]⟩] v4 zs) := A3.out.more N3a.out hB4 hat4; have L4 : Hid (Below B W w4) := L3a.out.grown hg4 hB3.out (fun k hk => (A3.out.buf.low hk).1); obtain ⟨av, cv, rfl, hbv, hhv, _⟩ := hB4.form; rw [List.nil_append, HSL.out] at A4 ⊢; have HV : Hid (Has w4 av zs) := hhv; clear hB4 hg4 hat4 hhv)
  clear A3 N3a L3a hP3 hbare hln hB3 N3 L3 S3
  refine (nwrite N4.out 0 _ rfl false av n cv zs HSL.out hbv HV.out hoct (Nat.zero_le _)).mono ?_
  rintro e w5 ⟨rfl, c5, hm5, D5⟩
  have N5 : Hid (Net w5 B b row (.map none) [c5, Cn.fresh k1 ⟨#[97]⟩]) := D5.net
  have L5 : Hid (Below B W w5) := L4.out.trans (D5.below N4.out)
  have A5 : Hid (Apt w5 B b row [c5, Cn.fresh k1 ⟨#[97]⟩] (.slice av n cv) zs) := A4.out.step D5
  clear D5 N4 L4 A4
  by_cases hlong : 1048576 < n
  · rw [write_long k0 zs (by rw [HSL.out]; exact hlong)]
    clear hm5
    go_wp2_with fail
    go_ret
    exact ⟨rfl, L5.out⟩
  rw [write_SO k0 zs (by rw [HSL.out]; exact hlong)] at hm5 ⊢
  have M5 : Hid (c5.m = SO zs []) := hm5
  clear hm5
  go_wp2_with fail
  have hP5 : Has w5 a2 zs2 := HS2.out.has.of_below (by rw [HB.out]; exact L5.out)
  refine (nwrite N5.out 1 _ rfl false a2 n2 cap2 zs2 HSL2.out HS2.out.bare hP5 HS2.out.oct (Nat.zero_le _)).mono ?_
  rintro e w6 ⟨rfl, c6, hm6, D6⟩
  have N6 : Hid (Net w6 B b row (.map none) [c5, c6]) := D6.net
  have L6 : Hid (Below B W w6) := L5.out.trans (D6.below N5.out)
  have A6 : Hid (Apt w6 B b row [c5, c6] (.slice av n cv) zs) := A5.out.step D6
  clear D6 N5 L5 A5 hP5
  by_cases hlong2 : 1048576 < n2
  · rw [write_long k1 zs2 (by rw [HSL2.out]; exact hlong2)]
    clear hm6
    go_wp2_with fail
    go_ret
    refine ⟨?_, L6.out⟩
    show Ending.returned (.bool (decide ((1048576 : Int) < n) || decide ((1048576 : Int) < n2))) = _
    rw [decide_eq_true (p := (1048576 : Int) < n2) (by omega), Bool.or_true]
  rw [write_SO k1 zs2 (by rw [HSL2.out]; exact hlong2)] at hm6 ⊢
  have M6 : Hid (c6.m = SO zs2 []) := hm6
  clear hm6 HV
  go_wp2_with fail
  go_loopw [11] (fun t wr => ∃ (i : Nat) (xs : List Int), i ≤ n ∧ t = .int .i64 i ∧ Hid (Net wr B b row (.map none) [c5, c6]) ∧ Hid (Apt wr B b row [c5, c6] (.slice av n cv) xs) ∧ Hid (Below B W wr)) (fun t _ => n - (intOf t).toNat)
  case atStart => exact ⟨0, zs, Nat.zero_le _, rfl, N6, A6, L6⟩
  case round =>
    obtain ⟨i, xs, hi, rfl, Nr, Ar, Lr⟩ := hrel
    clear N6 A6 L6
    by_cases hlt : i < n
    · obtain ⟨g, off, z, rfl, hc1, hf1, hz1', hz2'⟩ := Ar.out.at i hlt
      have P := Ar.out.put Nr.out Lr.out hlt ((z + 91) % 256) (by omega) (by omega)
      have HP : Hid (Apt (wr.setCell ⟨g, off + i, none⟩ (.int .u8 ((z + 91) % 256))) B b row [c5, c6] (.slice (some ⟨g, off, none⟩) n cv) (xs.set i ((z + 91) % 256)) ∧ Net (wr.setCell ⟨g, off + i, none⟩ (.int .u8 ((z + 91) % 256))) B b row (.map none) [c5, c6] ∧ Below B W (wr.setCell ⟨g, off + i, none⟩ (.int .u8 ((z + 91) % 256)))) := P
      clear P
      go_wp2_with fail
      go_roundw
      case rel => exact ⟨i + 1, _, by omega, by go_num, HP.out.2.1, HP.out.1, HP.out.2.2⟩
      case measure => simp [intOf]; omega
    · obtain ⟨w7, h⟩ : ∃ w7, w7 = wr := ⟨_, rfl⟩
      subst h
      go_wp2_with fail
      clear hi hlt
      obtain ⟨h, hh⟩ : ∃ h : Nat, (n : Int) / 2 = h := ⟨n / 2, by omega⟩
      have hhn : h ≤ n := by omega
      have HH : Hid (h + h ≤ n ∧ n ≤ h + h + 1) := by show _ ∧ _; omega
      rw [hh]
      clear hh
      have hus : (c5.sd false).us.length + (c5.sd (!false)).ar.length ≤ 140737488355328 := by
        rw [← m_us, ← m_ar, M5.out]
        have := HSL.out
        show zs.length + 0 ≤ _
        omega
      refine (npass Nr.out 0 _ rfl false h hus).mono ?_
      rintro e w8 ⟨rfl, c8, hm8, D8⟩
      rw [M5.out, pass_SO zs h (by rw [HSL.out]; exact hhn)] at hm8 ⊢
      have N8 : Hid (Net w8 B b row (.map none) [c8, c6]) := D8.net
      have L8 : Hid (Below B W w8) := Lr.out.trans (D8.below Nr.out)
      have M8 : Hid (c8.m = SO (zs.drop h) (zs.take h)) := hm8
      clear hm8 D8 hus Nr Ar Lr
      go_wp2_with fail
      refine (nread N8.out 0 _ rfl true).mono ?_
      rintro e w9 ⟨v9, rfl, c9, hm9, D9, G9⟩
      rw [M8.out, read_SO] at hm9 G9 ⊢
      have N9 : Hid (Net w9 B b row (.map none) [c9, c6]) := D9.net
      have L9 : Hid (Below B W w9) := L8.out.trans (D9.below N8.out)
      have M9 : Hid (c9.m = SO (zs.drop h) []) := hm9
      have A9 : Hid (Apt w9 B b row [c9, c6] v9 (zs.take h)) := G9.apt
      obtain ⟨aq, cq, hvq, hbq, hhq, _⟩ := G9.buf.form
      subst hvq
      have hlq : (zs.take h).length = h := by have := HSL.out; simp; omega
      rw [hlq] at A9 ⊢
      have HQ : Hid (Has w9 aq (zs.take h)) := hhq
      have hh0 : (0 : Int) ≤ h := by omega
      have hhc : h ≤ cap := Nat.le_trans hhn HS.out.fits
      clear hm9 D9 G9 hhq hlq M8 N8 L8
      go_wp2_with fail
      refine (same_any aq a h cq cap (zs.take h) w9 (by have := HSL.out; simp; omega) HQ.out (has_front (HS.out.has.of_below (by rw [HB.out]; exact L9.out)) h (by rw [HSL.out]; exact hhn)) (by omega)).mono ?_
      rintro e w10 ⟨rfl, q, hq⟩
      have N10 : Hid (Net w10 B b row (.map none) [c9, c6]) := by show Net _ _ _ _ _ _; rw [hq]; exact N9.out.far fun _ _ => rfl
      have A10 : Hid (Apt w10 B b row [c9, c6] (.slice aq h cq) (zs.take h)) := by show Apt _ _ _ _ _ _ _; rw [hq]; exact ⟨A9.out.buf.keep fun _ _ => rfl, A9.out.out⟩
      have L10 : Hid (Below B W w10) := by rw [hq]; exact below_drewN L9.out q
      clear hq N9 A9 L9 HQ
      go_wp2_with fail
      go_loopw [16] (fun t wr => ∃ (i : Nat) (xs : List Int), i ≤ h ∧ t = .int .i64 i ∧ Hid (Net wr B b row (.map none) [c9, c6]) ∧ Hid (Apt wr B b row [c9, c6] (.slice aq h cq) xs) ∧ Hid (Below B W wr)) (fun t _ => h - (intOf t).toNat)
      case atStart => exact ⟨0, _, Nat.zero_le _, rfl, N10, A10, L10⟩
      case round =>
        obtain ⟨i, xs, hi, rfl, Nr, Ar, Lr⟩ := hrel
        clear N10 A10 L10
        by_cases hlt : i < h
        · obtain ⟨g, off, z, rfl, hc1, hf1, hz1', hz2'⟩ := Ar.out.at i hlt
          have P := Ar.out.put Nr.out Lr.out hlt ((z + 91) % 256) (by omega) (by omega)
          have HP : Hid (Apt (wr.setCell ⟨g, off + i, none⟩ (.int .u8 ((z + 91) % 256))) B b row [c9, c6] (.slice (some ⟨g, off, none⟩) h cq) (xs.set i ((z + 91) % 256)) ∧ Net (wr.setCell ⟨g, off + i, none⟩ (.int .u8 ((z + 91) % 256))) B b row (.map none) [c9, c6] ∧ Below B W (wr.setCell ⟨g, off + i, none⟩ (.int .u8 ((z + 91) % 256)))) := P
          clear P
          go_wp2_with fail
          go_roundw
          case rel => exact ⟨i + 1, _, by omega, by go_num, HP.out.2.1, HP.out.1, HP.out.2.2⟩
          case measure => simp [intOf]; omega
        · obtain ⟨w11, hw11⟩ : ∃ w11, w11 = wr := ⟨_, rfl⟩
          subst hw11
          have S11 : Hid (B ≤ w11.heap.size) := by have := Lr.out.size; have := HB.out; show B ≤ w11.heap.size; omega
          have hB11 : Hid (B ≤ (w11.alloc (.cells #[.int .u8 1, .int .u8 2, .int .u8 3, .int .u8 4, .int .u8 5, .int .u8 6, .int .u8 7, .int .u8 8, .int .u8 9] 5)).heap.size) := by have := S11.out; show B ≤ _; simp; omega
          have N11 : Hid (Net (w11.alloc (.cells #[.int .u8 1, .int .u8 2, .int .u8 3, .int .u8 4, .int .u8 5, .int .u8 6, .int .u8 7, .int .u8 8, .int .u8 9] 5)) B b row (.map none) [c9, c6]) := Nr.out.alloc _
          have L11 : Hid (Below B W (w11.alloc (.cells #[.int .u8 1, .int .u8 2, .int .u8 3, .int .u8 4, .int .u8 5, .int .u8 6, .int .u8 7, .int .u8 8, .int .u8 9] 5))) := Lr.out.alloc S11.out _
          have A11 : Hid (Apt (w11.alloc (.cells #[.int .u8 1, .int .u8 2, .int .u8 3, .int .u8 4, .int .u8 5, .int .u8 6, .int .u8 7, .int .u8 8, .int .u8 9] 5)) B b row [c9, c6] (.slice aq h cq) xs) := ⟨Ar.out.buf.keep fun k hk => Below.heap_alloc _ _ _ (Ar.out.buf.low hk).2, Ar.out.out⟩
          have H11 : Hid (Has (w11.alloc (.cells #[.int .u8 1, .int .u8 2, .int .u8 3, .int .u8 4, .int .u8 5, .int .u8 6, .int .u8 7, .int .u8 8, .int .u8 9] 5)) (some ⟨w11.heap.size, 0, none⟩) [1, 2, 3, 4, 5, 6, 7, 8, 9]) := Has.of_block (zs := [1, 2, 3, 4, 5, 6, 7, 8, 9]) (Go.heap_alloc_new w11 _)
          have hxl : xs.length = h := by obtain ⟨_, _, e, _⟩ := Ar.out.buf.form; cases e; rfl
          have hx9 : Hid (xs.length + 9 ≤ 140737488355328) := by show _ ≤ _; omega
          go_wp2_with (at_builtin; refine wpList_append_buf _ rfl (.tmp 107) (.tmp 108) 32 rfl B i0 Try.underlying32 i0i hz0 hz1 hz2 (.slice aq h cq) xs rfl A11.out.buf (some ⟨w11.heap.size, 0, none⟩) 9 9 [1, 2, 3, 4, 5, 6, 7, 8, 9] rfl rfl (fun h => by cases h) H11.out oct_nine hx9.out hB11.out ?_; intro v12 w12 hB12 hg12 hat12; have N12 : Hid (Net w12 B b row (.map none) [c9, c6]) := N11.out.grown hg12 (fun g h => A11.out.out g h); have L12 : Hid (Below B W w12) := L11.out.grown hg12 hB11.out (fun k hk => (A11.out.buf.low hk).1); obtain ⟨a12, c12, rfl, _⟩ := hB12.form; have hl12 : (xs ++ [1, 2, 3, 4, 5, 6, 7, 8, 9]).length = h + 9 := (by simp [hxl]); rw [hl12]; obtain ⟨n12, hn12⟩ : ∃ n12, h + 9 = n12 := ⟨_, rfl⟩; rw [hn12]; have hn12' : 9 ≤ n12 := (by omega); clear hB12 hg12 hat12 hl12 hn12)
          clear hxl hx9 H11 A11 L11 N11 hB11 S11 Nr Ar Lr hlt
          have hus : (c9.sd false).us.length + (c9.sd (!false)).ar.length ≤ 140737488355328 := by
            rw [← m_us, ← m_ar, M9.out]
            have := HSL.out
            show (zs.drop h).length + 0 ≤ _
            simp; omega
          refine (npass N12.out 0 _ rfl false n hus).mono ?_
          rintro e w13 ⟨rfl, c13, hm13, D13⟩
          rw [M9.out, pass_SO_all (zs.drop h) n (by have := HSL.out; simp; omega)] at hm13 ⊢
          have N13 : Hid (Net w13 B b row (.map none) [c13, c6]) := D13.net
          have L13 : Hid (Below B W w13) := L12.out.trans (D13.below N12.out)
          have M13 : Hid (c13.m = SO [] (zs.drop h)) := hm13
          clear hm13 D13 hus N12 L12
          go_wp2_with fail
          have hus : (c6.sd false).us.length + (c6.sd (!false)).ar.length ≤ 140737488355328 := by
            rw [← m_us, ← m_ar, M6.out]
            have := HSL2.out
            show zs2.length + 0 ≤ _
            omega
          refine (npass N13.out 1 _ rfl false n2 hus).mono ?_
          rintro e w14 ⟨rfl, c14, hm14, D14⟩
          rw [M6.out, pass_SO_all zs2 n2 (by have := HSL2.out; omega)] at hm14 ⊢
          have N14 : Hid (Net w14 B b row (.map none) [c13, c14]) := D14.net
          have L14 : Hid (Below B W w14) := L13.out.trans (D14.below N13.out)
          have M14 : Hid (c14.m = SO [] zs2) := hm14
          clear hm14 D14 hus N13 L13
          go_wp2_with fail
          refine (nread N14.out 0 _ rfl true).mono ?_
          rintro e w15 ⟨v15, rfl, c15, hm15, D15, G15⟩
          rw [M13.out, read_SO] at hm15 G15 ⊢
          have N15 : Hid (Net w15 B b row (.map none) [c15, c14]) := D15.net
          have L15 : Hid (Below B W w15) := L14.out.trans (D15.below N14.out)
          have A15 : Hid (Apt w15 B b row [c15, c14] v15 (zs.drop h)) := G15.apt
          obtain ⟨a15, p15, hvq, hbq, hhq, _⟩ := G15.buf.form
          subst hvq
          have hlq : (zs.drop h).length = n - h := by have := HSL.out; simp; omega
          rw [hlq] at A15 ⊢
          clear hm15 D15 G15 hhq hlq M13 N14 L14
          go_wp2_with fail
          refine (nread N15.out 1 _ rfl true).mono ?_
          rintro e w16 ⟨v16, rfl, c16, hm16, D16, G16⟩
          rw [M14.out, read_SO] at hm16 G16 ⊢
          have L16 : Hid (Below B W w16) := L15.out.trans (D16.below N15.out)
          have A16 : Hid (Apt w16 B b row [c15, c16] (.slice a15 (n - h) p15) (zs.drop h)) := A15.out.step D16
          have B16 : Hid (Buf w16 B v16 zs2) := G16.buf
          obtain ⟨a16, p16, hvq, hbq, hhq, _⟩ := G16.buf.form
          subst hvq
          rw [HSL2.out] at B16 ⊢
          clear hm16 D16 G16 hhq M14 N15 L15 A15
          have hhI : (h : Int) ≤ n := by omega
          have ha15 : Has w16 a15 (zs.drop h) := by
            obtain ⟨_, _, e, _, hh, _⟩ := A16.out.buf.form
            injection e with e1 e2 e3
            rw [e1]
            exact hh
          have ha16 : Has w16 a16 zs2 := by
            obtain ⟨_, _, e, _, hh, _⟩ := B16.out.form
            cases e
            exact hh
          have hW16 : Has w16 a zs := HS.out.has.of_below (by rw [HB.out]; exact L16.out)
          have hnc := HS.out.fits
          by_cases hck : cap = h
          · have hd0 : zs.drop h = [] := by have := HSL.out; have := HH.out; simp; omega
            go_wp2_with fail
            refine (same_any a15 a (n - h) p15 0 (zs.drop h) w16 (by have := HSL.out; simp; omega) ha15 (by rw [hd0]; exact has_nil _ _) (by omega)).mono ?_
            rintro e w17 ⟨rfl, q, hq⟩
            have L17 : Hid (Below B W w17) := by rw [hq]; exact below_drewN L16.out q
            have H17 : Hid (Has w17 a16 zs2) := by rw [hq]; exact has_drewN ha16 q
            clear hq ha15 ha16
            go_wp2_with fail
            refine (same_any a16 a2 n2 p16 cap2 zs2 w17 HSL2.out H17.out (HS2.out.has.of_below (by rw [HB.out]; exact L17.out)) (by omega)).mono ?_
            rintro e w18 ⟨rfl, q, hq⟩
            have L18 : Hid (Below B W w18) := by rw [hq]; exact below_drewN L17.out q
            clear hq
            go_wp2_with fail
            go_ret
            exact ⟨rfl, L18.out⟩
          · have hbk := has_back hW16 h (by rw [HSL.out]; exact hhn)
            go_wp2_with fail
            refine (same_any a15 (Option.map (fun x => x.add h) a) (n - h) p15 (cap - h) (zs.drop h) w16 (by have := HSL.out; simp; omega) ha15 hbk (by omega)).mono ?_
            rintro e w17 ⟨rfl, q, hq⟩
            have L17 : Hid (Below B W w17) := by rw [hq]; exact below_drewN L16.out q
            have H17 : Hid (Has w17 a16 zs2) := by rw [hq]; exact has_drewN ha16 q
            clear hq ha15 ha16
            go_wp2_with fail
            refine (same_any a16 a2 n2 p16 cap2 zs2 w17 HSL2.out H17.out (HS2.out.has.of_below (by rw [HB.out]; exact L17.out)) (by omega)).mono ?_
            rintro e w18 ⟨rfl, q, hq⟩
            have L18 : Hid (Below B W w18) := by rw [hq]; exact below_drewN L17.out q
            clear hq
            go_wp2_with fail
            go_ret
            exact ⟨rfl, L18.out⟩
theorem own_any (W : World) (a : Option Addr) (n cap : Nat) (zs : List Int) (hs : Bs W a n cap zs) (a2 : Option Addr) (n2 cap2 : Nat) (zs2 : List Int) (hs2 : Bs W a2 n2 cap2 zs2) :
    Calls Try.prog 6 #[.slice a n cap, .slice a2 n2 cap2] W fun e w' => e = .returned (.bool true) ∧ Below W.heap.size W w' := own_at W _ rfl a n cap zs hs a2 n2 cap2 zs2 hs2
end Go.Proofs.Ytcbnmoppnoiggaa
