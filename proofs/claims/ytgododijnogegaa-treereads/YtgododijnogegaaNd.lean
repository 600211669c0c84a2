/-
  A list of nodes in memory; a node by its number; Get, and the document's.
-/
import Derived.Test.YtgododijnogegaaBase
namespace Go.Proofs.Ytgododijnogegaa
open Go.RowKit
set_option linter.unusedVariables false
set_option linter.unusedSimpArgs false
set_option maxRecDepth 100000
theorem hideL {p : Prop} (h : p) : Hid p := h
/-- numbers behind a slice's address -/
def Nums (w : World) (a : Option Addr) (cs : List Int) : Prop := (a = none ∧ cs = []) ∨ ∃ x, a = some x ∧ ∀ j, j < cs.length → w.cell? (x.add j) = some (.int .i64 (cs.getD j 0))
/-- a node -/
structure Nx where
  kd : Int
  key : ByteArray
  tx : ByteArray
  quo : Bool
  ln : Int
  a : Option Addr
  n : Nat
  cap : Nat
  ks : List Int
def Nx.row (o : Nx) : List Value := [.int .i64 o.kd, .string o.key, .string o.tx, .bool o.quo, .int .i64 o.ln, .slice o.a o.n o.cap]
/-- what holds of a node in memory -/
structure Nin (W : World) (o : Nx) : Prop where
  s1 : o.key.size ≤ maxLen
  s2 : o.tx.size ≤ maxLen
  len : o.ks.length = o.n
  nums : Nums W o.a o.ks
  rng : ∀ c ∈ o.ks, -9223372036854775808 ≤ c ∧ c ≤ 9223372036854775807
  bare : o.a = none → o.cap = 0
  big : o.n ≤ 17592186043904
/-- a list of nodes in memory -/
structure Ns (W : World) (a : Option Addr) (os : List Nx) : Prop where
  each : ∀ o ∈ os, Nin W o
  row : os = [] ∨ ∃ g off, a = some ⟨g, off, none⟩ ∧ ∀ (i : Nat) (o : Nx), os[i]? = some o → ∀ (j : Nat) (u : Value), o.row[j]? = some u → W.cell? ⟨g, off + i * 6 + j, none⟩ = some u
theorem within_any (w : World) (a : Option Addr) (n cap : Nat) (z : Int) :
    Calls Try.prog 27 #[.slice a n cap, .int .i64 z] w fun e w' => e = .returned (.bool (decide (0 ≤ z ∧ z < n))) ∧ w' = w := by
  go_enter Try.func27, Try.ntmps27
  by_cases h0 : z < 0
  · have h0' : ¬ 0 ≤ z := by omega
    go_wp2
    go_ret
    simp
    omega
  · have h0' : 0 ≤ z := by omega
    by_cases h1 : z < n
    · go_wp2
      go_ret
      simp [h0', h1]
    · go_wp2
      go_ret
      simp [h0', h1]
theorem ba_ne {a b : ByteArray} (h : ¬ a = b) : (a.toList == b.toList) = false := by
  rw [beq_eq_false_iff_ne, ByteArray.toList_eq, ByteArray.toList_eq]
  intro e
  obtain ⟨x⟩ := a
  obtain ⟨y⟩ := b
  exact h (congrArg ByteArray.mk (Array.toList_inj.1 e))
theorem ba_eq (a : ByteArray) : (a.toList == a.toList) = true := by simp
/-- whether a number is that of a node with this key -/
def hit (l : List Nx) (key : ByteArray) (k : Int) : Bool := decide (0 ≤ k) && (match l[k.toNat]? with | some o => decide (o.key = key) | none => false)
/-- what Get answers -/
def getF (l : List Nx) (z : Int) (key : ByteArray) : Option Int := if 0 ≤ z then (match l[z.toNat]? with | some o => if o.kd = 2 then o.ks.find? (hit l key) else none | none => none) else none
theorem find_at {α : Type} {p : α → Bool} : ∀ (ks : List α) (i : Nat) (k : α), ks[i]? = some k → p k = true → (∀ (j : Nat) (c : α), j < i → ks[j]? = some c → p c = false) → ks.find? p = some k
  | [], i, k, h, _, _ => by simp at h
  | x :: ks, 0, k, h, hp, _ => by simp at h; subst h; simp [hp]
  | x :: ks, i + 1, k, h, hp, hb => by
    have hx := hb 0 x (by omega) rfl
    simp only [List.find?_cons, hx]
    exact find_at ks i k (by simpa using h) hp (fun j c hj hc => hb (j + 1) c (by omega) (by simpa using hc))
theorem find_no {α : Type} {p : α → Bool} (ks : List α) (hb : ∀ (j : Nat) (c : α), ks[j]? = some c → p c = false) : ks.find? p = none := by
  rw [List.find?_eq_none]
  intro c hc
  obtain ⟨j, hj⟩ := List.mem_iff_getElem?.1 hc
  simp [hb j c hj]
theorem getF_none {l : List Nx} {z : Int} {key : ByteArray} (h : ¬ (0 ≤ z ∧ z < l.length)) : getF l z key = none := by
  unfold getF
  split
  · rw [List.getElem?_eq_none (by omega)]
  · rfl
theorem getF_at {l : List Nx} {q : Nat} {key : ByteArray} {o : Nx} (h : l[q]? = some o) : getF l q key = if o.kd = 2 then o.ks.find? (hit l key) else none := by
  unfold getF
  rw [if_pos (by omega), Int.toNat_natCast, h]
theorem hit_at {l : List Nx} {q : Nat} {key : ByteArray} {o : Nx} (h : l[q]? = some o) : hit l key q = decide (o.key = key) := by
  unfold hit
  rw [Int.toNat_natCast, h]
  simp
theorem hit_out {l : List Nx} {z : Int} {key : ByteArray} (h : ¬ (0 ≤ z ∧ z < l.length)) : hit l key z = false := by
  unfold hit
  by_cases hz : 0 ≤ z
  · rw [List.getElem?_eq_none (by omega)]; simp
  · simp [hz]
theorem Nums.at_ {w : World} {a : Option Addr} {cs : List Int} (h : Nums w a cs) {i : Nat} {k : Int} (hi : cs[i]? = some k) : ∃ x, a = some x ∧ w.cell? (x.add i) = some (.int .i64 k) := by
  obtain ⟨hl, he⟩ := List.getElem?_eq_some_iff.1 hi
  rcases h with ⟨_, rfl⟩ | ⟨x, hx, hc⟩
  · simp at hl
  · refine ⟨x, hx, ?_⟩
    rw [hc i hl]; simp [List.getD, hi]
def getV (o : Option Int) : Value := .tuple #[.int .i64 (o.getD 0), .bool o.isSome]
set_option maxHeartbeats 2000000 in
theorem get_any (w : World) (a : Option Addr) (n cap : Nat) (l : List Nx) (z : Int) (key : ByteArray) (hn : l.length = n) (hl : n ≤ 140737488351232) (hS : Ns w a l) (hk : key.size ≤ maxLen) :
    Calls Try.prog 12 #[.slice a n cap, .int .i64 z, .string key] w fun e w' => e = .returned (getV (getF l z key)) ∧ w' = w := by
  have HS := hideL hS
  have HN := hideL hn
  clear hS hn
  go_enter Try.func12, Try.ntmps12
  by_cases h0 : 0 ≤ z ∧ z < n
  · obtain ⟨q, rfl⟩ : ∃ q : Nat, z = q := ⟨z.toNat, by omega⟩
    obtain ⟨h0, h1⟩ := h0
    rcases hoi : l[q]? with _ | o
    · have := List.getElem?_eq_none_iff.1 hoi; have := HN.out; omega
    rcases HS.out.row with hx | ⟨g, off, rfl, hc⟩
    · rw [hx] at hoi; simp at hoi
    have c0 := hc q _ hoi 0 _ rfl
    have c5 := hc q _ hoi 5 _ rfl
    rw [Nat.add_zero] at c0
    have HC := hideL hc
    have HI := hideL hoi
    clear hc hoi
    by_cases hk2 : o.kd = 2
    · go_wp2_with (go_at_call 27; refine (within_any w _ n cap q).mono ?_; rintro e w1 ⟨rfl, rfl⟩)
      have hin : Nin w1 o := HS.out.each o (List.mem_of_getElem? HI.out)
      have HIN := hideL hin
      have hbig := hin.big
      clear hin
      go_loopw [28] (fun t wr => ∃ (i : Nat), t = .int .i64 i ∧ i ≤ o.n ∧ wr = w1 ∧ Hid (∀ j c, j < i → o.ks[j]? = some c → hit l key c = false)) (fun t _ => o.n - (intOf t).toNat)
      case atStart => exact ⟨0, rfl, by omega, rfl, fun j c hj _ => by omega⟩
      case round =>
        obtain ⟨i, rfl, hi, rfl, HF⟩ := hrel
        have i0 : (0 : Int) ≤ i := by omega
        by_cases h2 : i < o.n
        · have h2' : (i : Int) < o.n := by omega
          rcases hki : o.ks[i]? with _ | k
          · have := List.getElem?_eq_none_iff.1 hki; have := HIN.out.len; omega
          obtain ⟨x, hx, hcx⟩ := HIN.out.nums.at_ hki
          rw [hx]
          have HK := hideL hki
          clear hki
          by_cases hkr : 0 ≤ k ∧ k < n
          · obtain ⟨p, rfl⟩ : ∃ p : Nat, k = p := ⟨k.toNat, by omega⟩
            obtain ⟨hk0, hk1⟩ := hkr
            rcases hop : l[p]? with _ | o2
            · have := List.getElem?_eq_none_iff.1 hop; have := HN.out; omega
            have d1 := HC.out p _ hop 1 _ rfl
            have HP := hideL hop
            clear hop
            by_cases he : o2.key = key
            · have he' : (o2.key.toList == key.toList) = true := by rw [he]; exact ba_eq _
              go_wp2_with (go_at_call 27; refine (within_any _ _ n cap p).mono ?_; rintro e w2 ⟨rfl, rfl⟩)
              go_ret2
              rw [getF_at HI.out, if_pos hk2, find_at _ i _ HK.out (by rw [hit_at HP.out]; simpa using he) HF.out]
              exact ⟨rfl, rfl⟩
            · have he' : (o2.key.toList == key.toList) = false := ba_ne he
              go_wp2_with (go_at_call 27; refine (within_any _ _ n cap p).mono ?_; rintro e w2 ⟨rfl, rfl⟩)
              go_roundw
              case rel =>
                refine ⟨i + 1, by go_num, by omega, by trivial, fun j c hj hc => ?_⟩
                by_cases hji : j < i
                · exact HF.out j c hji hc
                · obtain rfl : j = i := by omega
                  rw [HK.out] at hc; cases hc
                  rw [hit_at HP.out]; simpa using he
              case measure => simp [intOf]; omega
          · have hkr' : decide (0 ≤ k ∧ k < n) = false := by simpa using hkr
            go_wp2_with (go_at_call 27; refine (within_any _ _ n cap k).mono ?_; rintro e w2 ⟨rfl, rfl⟩; rw [hkr'])
            go_roundw
            case rel =>
              refine ⟨i + 1, by go_num, by omega, by trivial, fun j c hj hc => ?_⟩
              by_cases hji : j < i
              · exact HF.out j c hji hc
              · obtain rfl : j = i := by omega
                rw [HK.out] at hc; cases hc
                exact hit_out (by rw [HN.out]; exact hkr)
            case measure => simp [intOf]; omega
        · have h2' : ¬ (i : Int) < o.n := by omega
          go_wp2
          go_ret2
          rw [getF_at HI.out, if_pos hk2, find_no _ (fun j c hc => HF.out j c (by have := (List.getElem?_eq_some_iff.1 hc).1; have := HIN.out.len; omega) hc)]
          exact ⟨rfl, rfl⟩
    · go_wp2_with (go_at_call 27; refine (within_any w _ n cap q).mono ?_; rintro e w1 ⟨rfl, rfl⟩)
      go_ret2
      rw [getF_at HI.out, if_neg hk2]
      exact ⟨rfl, rfl⟩
  · have h0' : decide (0 ≤ z ∧ z < n) = false := by simpa using h0
    go_wp2_with (go_at_call 27; refine (within_any w _ n cap z).mono ?_; rintro e w1 ⟨rfl, rfl⟩; rw [h0'])
    go_ret2
    rw [getF_none (by rw [HN.out]; exact h0)]
    exact ⟨rfl, rfl⟩
end Go.Proofs.Ytgododijnogegaa
