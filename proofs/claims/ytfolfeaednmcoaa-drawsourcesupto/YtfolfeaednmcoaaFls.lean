/- Lists of reals in memory; mayBe, lastAbove, Place. -/
import Derived.Test.YtfolfeaednmcoaaNum
namespace Go.Proofs.Ytfolfeaednmcoaa
open Go.RowKit Ieee
set_option linter.unusedVariables false
set_option linter.unusedSimpArgs false

theorem Try.info29 : (Try.prog.info? 29).map (fun i => (i.zero, i.size, i.bytes)) = some (some (.float .f64 0), 1, 8) := by kernel_rfl
theorem info_parts {t : TypeId} {z : Value} {s b : Nat} (h : (Try.prog.info? t).map (fun i => (i.zero, i.size, i.bytes)) = some (some z, s, b)) : ∃ i, Try.prog.info? t = some i ∧ i.zero = some z ∧ i.size = s ∧ i.bytes = b := by
  cases hi : Try.prog.info? t with
  | none => rw [hi] at h; cases h
  | some i => rw [hi] at h; simp at h; exact ⟨i, rfl, h.1, h.2.1, h.2.2⟩
theorem block_setCell {w : World} {k : Nat} {cs : Array Value} {t : TypeId} {fr : Nat × Nat} (h : w.heap[k]? = some (.cells cs t fr)) (o : Nat) (v : Value) :
    (w.setCell ⟨k, o, none⟩ v).heap[k]? = some (.cells (cs.setIfInBounds o v) t fr) := by
  rw [setCell_eq_setRow w k o cs t fr v h]
  unfold World.setRow
  simp [Array.getElem?_modify, h]
def fvals (L : List Nat) : List Value := L.map (Value.float .f64)
theorem fvals_length (L : List Nat) : (fvals L).length = L.length := by simp [fvals]
theorem fvals_get (L : List Nat) (j : Nat) (h : j < L.length) : (fvals L)[j]? = some (.float .f64 (L.getD j 0)) := by simp [fvals, h]
theorem fvals_one (L : List Nat) : ∀ u ∈ fvals L, u.oneCell' = true := by
  intro u hu
  obtain ⟨z, _, rfl⟩ := List.mem_map.1 hu
  rfl
theorem fvals_append (a b : List Nat) : fvals (a ++ b) = fvals a ++ fvals b := by simp [fvals]
theorem fvals_set (L : List Nat) (k v : Nat) : (fvals L).toArray.setIfInBounds k (.float .f64 v) = (fvals (L.set k v)).toArray := by simp [fvals, List.map_set]
/-- reals behind a slice -/
structure Fl (w : World) (a : Option Addr) (n : Nat) (zs : List Nat) : Prop where
  len : zs.length = n
  at' : n = 0 ∨ ∃ b o, a = some ⟨b, o, none⟩ ∧ ∀ j, j < n → w.cell? ⟨b, o + j, none⟩ = some (.float .f64 (zs.getD j 0))
  small : n ≤ 17592186044415
theorem Fl.lt {w : World} {a : Option Addr} {n : Nat} {zs : List Nat} (h : Fl w a n zs) : ∀ b o, a = some ⟨b, o, none⟩ → 0 < n → b < w.heap.size := by
  intro b o e h0
  rcases h.at' with h1 | ⟨b', o', e', hc⟩
  · omega
  · rw [e] at e'; cases e'
    have := World.block_lt_of_cell? w _ (hc 0 h0)
    simpa using this
theorem Fl.below {w w' : World} {B : Nat} {a : Option Addr} {n : Nat} {zs : List Nat} (h : Fl w a n zs) (hb : Below B w w') (hB : ∀ b o, a = some ⟨b, o, none⟩ → 0 < n → b < B) : Fl w' a n zs := by
  refine ⟨h.len, ?_, h.small⟩
  by_cases h0 : n = 0
  · exact .inl h0
  rcases h.at' with h1 | ⟨b, o, e, hc⟩
  · exact .inl h1
  · exact .inr ⟨b, o, e, fun j hj => (hb.cell (p := ⟨b, o + j, none⟩) (hB b o e (by omega))).trans (hc j hj)⟩
theorem Fl.of_below {w w' : World} {a : Option Addr} {n : Nat} {zs : List Nat} (h : Fl w a n zs) (hb : Below w.heap.size w w') : Fl w' a n zs := h.below hb h.lt
theorem Fl.drew {w : World} {a : Option Addr} {n : Nat} {zs : List Nat} (h : Fl w a n zs) (q : Nat) : Fl (w.drewN q) a n zs :=
  h.of_below (below_drewN (Below.refl _ _) q)
theorem Fl.of_block {w : World} {B : Nat} {L : List Nat} {t : TypeId} {fr : Nat × Nat} (hb : w.heap[B]? = some (.cells (fvals L).toArray t fr)) (n : Nat) (hn : n ≤ L.length) (hs : L.length ≤ 17592186044415) : Fl w (some ⟨B, 0, none⟩) n (L.take n) := by
  refine ⟨by simp; omega, .inr ⟨B, 0, rfl, fun j hj => ?_⟩, by omega⟩
  have h1 : (fvals L).toArray.toList[j]? = some (.float .f64 (L.getD j 0)) := by simpa using fvals_get L j (by omega)
  have := World.news_of_block hb j _ h1
  rw [show (L.take n).getD j 0 = L.getD j 0 by simp [List.getD, hj]]
  rw [Go.WideShapes.add_plain] at this
  exact this
theorem Fl.nil (w : World) : Fl w none 0 [] := ⟨rfl, .inl rfl, by decide⟩
theorem Fl.cap {w : World} {a : Option Addr} {n : Nat} {zs : List Nat} (h : Fl w a n zs) (k : Nat) (hk : k < n) : ∃ b o, a = some ⟨b, o, none⟩ ∧ ∀ j, j < n → w.cell? ⟨b, o + j, none⟩ = some (.float .f64 (zs.getD j 0)) := by
  rcases h.at' with h1 | h1
  · omega
  · exact h1

theorem maybe_any (b : Nat) (w : World) : Calls Try.prog 36 #[.float .f64 b] w fun e w' => e = .returned (.bool (decide (mb b))) ∧ w' = w := by
  have h := may_iff b
  cases h1 : (FloatKind.f64.format.order b 0 == some .gt || FloatKind.f64.format.order b 0 == some .eq) with
  | false =>
    have h2 : decide (mb b) = false := by rw [← h]; exact Bool.and_eq_false_imp.2 fun h3 => absurd (h1.symm.trans h3) (by decide)
    rw [h2]
    clear h h2
    go_enter Try.func36, Try.ntmps36
    go_wp2
    go_ret
    exact ⟨rfl, rfl⟩
  | true =>
    cases h2 : (FloatKind.f64.format.order b 9218868437227405311 == some .lt || FloatKind.f64.format.order b 9218868437227405311 == some .eq) with
    | false =>
      have h3 : decide (mb b) = false := by rw [← h]; exact Bool.and_eq_false_iff.2 (.inr h2)
      rw [h3]
      clear h h3
      go_enter Try.func36, Try.ntmps36
      go_wp2
      go_ret
      exact ⟨rfl, rfl⟩
    | true =>
      have h3 : decide (mb b) = true := by rw [← h]; exact Bool.and_eq_true_iff.2 ⟨h1, h2⟩
      rw [h3]
      clear h h3
      go_enter Try.func36, Try.ntmps36
      go_wp2
      go_ret
      exact ⟨rfl, rfl⟩

/-- the sum of all -/
def tot (zs : List Nat) : Nat := zs.foldl S 0
theorem tot_succ (zs : List Nat) (k : Nat) (h : k < zs.length) : tot (zs.take (k + 1)) = S (tot (zs.take k)) (zs.getD k 0) := by
  unfold tot
  rw [List.take_add_one, List.foldl_append]
  simp [h]
theorem foldl_le (zs : List Nat) : ∀ s, s ≤ INF → zs.foldl S s ≤ INF := by
  induction zs with
  | nil => intro s h; exact h
  | cons z zs ih => intro s h; exact ih _ (S_le _ _)
theorem tot_le (zs : List Nat) : tot zs ≤ INF := foldl_le zs 0 (by decide)
/-- the last weight above nought, or none -/
def LastIs (zs : List Nat) (k l : Nat) : Prop := (l = 0 ∧ (∀ j, j < k → rg (zs.getD j 0) = 0) ∧ tot (zs.take k) = 0) ∨ (l < k ∧ 0 < rg (zs.getD l 0) ∧ (∀ j, l < j → j < k → rg (zs.getD j 0) = 0) ∧ 0 < tot (zs.take k))
def May (zs : List Nat) (k : Nat) : Prop := ∀ j, j < k → mb (zs.getD j 0)
def Good (zs : List Nat) : Prop := May zs zs.length ∧ 0 < tot zs ∧ tot zs < INF
theorem last_zero (zs : List Nat) : LastIs zs 0 0 := .inl ⟨rfl, (fun j h => by omega), by simp [tot]⟩
theorem last_no {zs : List Nat} {k l : Nat} (h : LastIs zs k l) (hk : k < zs.length) (h0 : rg (zs.getD k 0) = 0) : LastIs zs (k + 1) l := by
  rcases h with ⟨rfl, h1, h2⟩ | ⟨h1, h2, h3, h4⟩
  · refine .inl ⟨rfl, fun j hj => ?_, ?_⟩
    · by_cases e : j = k
      · rw [e]; exact h0
      · exact h1 j (by omega)
    · rw [tot_succ _ _ hk, h2, S_keep (by decide) h0]
  · refine .inr ⟨by omega, h2, fun j hj hk => ?_, ?_⟩
    · by_cases e : j = k
      · rw [e]; exact h0
      · exact h3 j hj (by omega)
    · rw [tot_succ _ _ hk]; exact (S_pos (tot_le _)).2 (.inl h4)
theorem last_yes {zs : List Nat} {k l : Nat} (h : LastIs zs k l) (hk : k < zs.length) (h0 : 0 < rg (zs.getD k 0)) : LastIs zs (k + 1) k :=
  .inr ⟨by omega, h0, (fun j h1 h2 => by omega), by rw [tot_succ _ _ hk]; exact (S_pos (tot_le _)).2 (.inr h0)⟩
theorem gt_fact {z : Nat} (h : mb z) (w : World) : ((FloatKind.f64.format.order z 0 == some .gt) = decide (0 < rg z)) := gt_zero h
theorem tot_end (T : Nat) (hT : T ≤ INF) : (FloatKind.f64.format.order T 0 == some .gt) = decide (0 < T) ∧ (FloatKind.f64.format.order T 9218868437227405311 == some .lt || FloatKind.f64.format.order T 9218868437227405311 == some .eq) = decide (T < INF) := by
  have hr := rg_lt hT
  constructor
  · by_cases h : T < INF
    · have := gt_zero (b := T) ⟨by rw [hr.1]; exact h, .inl hr.2⟩
      rw [hr.1] at this; exact this
    · have e : rg T = INF := by rw [hr.1]; omega
      have := order_inf T 0 e (by decide)
      rw [hr.2] at this
      show (double.order T 0 == some .gt) = _
      rw [this]
      have : decide (0 < T) = true := by simp only [INF] at *; simp; omega
      rw [this]; rfl
  · have := le_max T
    rw [hr.1, hr.2] at this
    show (double.order T MAX == some .lt || double.order T MAX == some .eq) = _
    rw [this]
    simp
theorem above_any (a : Option Addr) (n cap : Nat) (zs : List Nat) (w : World) (hF : Fl w a n zs) :
    Calls Try.prog 33 #[.slice a n cap] w fun e w' => w' = w ∧ ((Good zs ∧ ∃ l : Nat, LastIs zs n l ∧ e = .returned (.tuple #[.int .i64 l, .bool true])) ∨ (¬ Good zs ∧ e = .returned (.tuple #[.int .i64 0, .bool false]))) := by
  have hl := hF.len
  have hs := hF.small
  go_enter Try.func33, Try.ntmps33
  go_wp2
  go_loopw [4, 5, 10] (fun l s t wr => ∃ k last : Nat, k ≤ n ∧ t = .int .i64 k ∧ l = .int .i64 last ∧ s = .float .f64 (tot (zs.take k)) ∧ May zs k ∧ LastIs zs k last ∧ w = wr) (fun l s t _ => n - (intOf t).toNat)
  case atStart => exact ⟨0, 0, by omega, rfl, rfl, rfl, (fun j h => by omega), last_zero zs, rfl⟩
  case round =>
    obtain ⟨k, last, hk, rfl, rfl, rfl, hM, hL, rfl⟩ := hrel
    by_cases hlt : k < n
    · obtain ⟨b, o, rfl, hc⟩ := hF.cap k hlt
      have c1 := hc k hlt
      have k0 : (0 : Int) ≤ k := by omega
      have k1 : (k : Int) < n := by omega
      have hT := tot_le (zs.take k)
      have hS := tot_succ zs k (by omega)
      obtain ⟨z, hz⟩ : ∃ z, zs.getD k 0 = z := ⟨_, rfl⟩
      have HZ : Hid (zs.getD k 0 = z) := hz
      have HM : Hid (May zs k) := hM
      have HL : Hid (LastIs zs k last) := hL
      have HF : Hid (Fl w (some ⟨b, o, none⟩) n zs) := hF
      have HN : Hid (zs.length = n) := hl
      rw [hz] at c1 hS
      obtain ⟨T, hT'⟩ : ∃ T, tot (zs.take k) = T := ⟨_, rfl⟩
      rw [hT'] at hT hS
      rw [hT']
      clear hz hM hL hF hl hc hT'
      go_wp2_with fail
      refine (maybe_any z w).mono ?_
      rintro e w1 ⟨rfl, rfl⟩
      by_cases hmb : mb z
      · have hd : decide (mb z) = true := by simpa using hmb
        have rA : (binOp .add 29 (.float .f64 T) (.float .f64 z)).run Try.prog w1 = .ok (.float .f64 (S T z)) w1 := run_float_arith w1 .add 29 .f64 _ _ _ (add_S hT hmb)
        have HMB : Hid (mb z) := hmb
        have HS : Hid (tot (zs.take (k + 1)) = S T z) := hS
        have hg := gt_fact hmb w1
        obtain ⟨T2, hT2⟩ : ∃ T2, S T z = T2 := ⟨_, rfl⟩
        rw [hT2] at rA HS
        rw [hd]
        clear hd hmb hS hT2 hT
        by_cases hz0 : 0 < rg z
        · have hg1 : (FloatKind.f64.format.order z 0 == some .gt) = true := by rw [hg]; simpa using hz0
          have HZ0 : Hid (0 < rg z) := hz0
          clear hg hz0
          go_wp2_with fail
          go_roundw
          case rel => exact ⟨k + 1, k, by omega, by go_num, rfl, by rw [HS.out], (fun j hj => by
            by_cases e : j = k
            · rw [e, HZ.out]; exact HMB.out
            · exact HM.out j (by omega)), last_yes HL.out (by have := HN.out; omega) (by rw [HZ.out]; exact HZ0.out), trivial⟩
          case measure => simp [intOf]; omega
        · have hg1 : (FloatKind.f64.format.order z 0 == some .gt) = false := by rw [hg]; simpa using hz0
          have HZ0 : Hid (¬ 0 < rg z) := hz0
          clear hg hz0
          go_wp2_with fail
          go_roundw
          case rel => exact ⟨k + 1, last, by omega, by go_num, rfl, by rw [HS.out], (fun j hj => by
            by_cases e : j = k
            · rw [e, HZ.out]; exact HMB.out
            · exact HM.out j (by omega)), last_no HL.out (by have := HN.out; omega) (by rw [HZ.out]; have := HZ0.out; omega), trivial⟩
          case measure => simp [intOf]; omega
      · have hd : decide (mb z) = false := by simpa using hmb
        rw [hd]
        have HMB : Hid (¬ mb z) := hmb
        clear hd hmb hS
        go_wp2_with fail
        go_ret2
        exact ⟨rfl, .inr ⟨fun hG => HMB.out (by have := hG.1 k (by have := HN.out; omega); rwa [HZ.out] at this), rfl⟩⟩
    · obtain rfl : k = n := by omega
      have hT := tot_end (tot (zs.take k)) (tot_le _)
      have he : tot (zs.take k) = tot zs := by rw [← hl, List.take_length]
      rw [he] at hT ⊢
      have HM : Hid (May zs k) := hM
      have HL : Hid (LastIs zs k last) := hL
      have HN : Hid (zs.length = k) := hl
      have HG : Hid (Good zs ↔ 0 < tot zs ∧ tot zs < INF) := ⟨fun h => h.2, fun h => ⟨by rw [hl]; exact hM, h⟩⟩
      obtain ⟨T, hT'⟩ : ∃ T, tot zs = T := ⟨_, rfl⟩
      rw [hT'] at hT HG ⊢
      clear hM hL hl he hT' hF
      obtain ⟨t1, t2⟩ := hT
      by_cases h1 : 0 < T
      · have d1 : (FloatKind.f64.format.order T 0 == some .gt) = true := by rw [t1]; simpa using h1
        by_cases h2 : T < INF
        · have d2 : (FloatKind.f64.format.order T 9218868437227405311 == some .lt || FloatKind.f64.format.order T 9218868437227405311 == some .eq) = true := by rw [t2]; simpa using h2
          have HA : Hid (0 < T ∧ T < INF) := ⟨h1, h2⟩
          clear t1 t2 h1 h2
          go_wp2_with fail
          go_ret2
          exact ⟨rfl, .inl ⟨HG.out.2 HA.out, last, HL.out, rfl⟩⟩
        · have d2 : (FloatKind.f64.format.order T 9218868437227405311 == some .lt || FloatKind.f64.format.order T 9218868437227405311 == some .eq) = false := by rw [t2]; simpa using h2
          have HA : Hid (¬ T < INF) := h2
          clear t1 t2 h1 h2
          go_wp2_with fail
          go_ret2
          exact ⟨rfl, .inr ⟨fun h => HA.out (HG.out.1 h).2, rfl⟩⟩
      · have d1 : (FloatKind.f64.format.order T 0 == some .gt) = false := by rw [t1]; simpa using h1
        have HA : Hid (¬ 0 < T) := h1
        clear t1 t2 h1
        go_wp2_with fail
        go_ret2
        exact ⟨rfl, .inr ⟨fun h => HA.out (HG.out.1 h).1, rfl⟩⟩
end Go.Proofs.Ytfolfeaednmcoaa
