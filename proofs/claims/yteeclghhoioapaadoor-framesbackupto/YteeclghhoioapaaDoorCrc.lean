/-
  The contracts of sum.More and sum.Crc for whatever slice, nil and empty ones too.
-/
import Derived.Test.YteeclghhoioapaaDoorLent
import Derived.OpenShut
namespace Go.Proofs.YteeclghhoioapaaDoor
open Go.RowKit
set_option linter.unusedVariables false

set_option maxHeartbeats 400000 in
theorem more_empty (c : Int) (a : Option Addr) (cap : Nat) (w : World) (hc0 : 0 ≤ c) (hc1 : c < 4294967296) :
    Calls Tryd.prog 54 #[.int .u32 c, .slice a 0 cap] w fun e w' => e = .returned (.int .u32 (moreF c [])) ∧ w' = w := by
  go_enter Tryd.func54, Tryd.ntmps54
  go_wp2
  go_loop [0, 11] (fun t i => i = .int .i64 0 ∧ t = .int .u32 (flip c)) (fun _ i => (intOf i).toNat)
  case atStart => exact ⟨rfl, rfl⟩
  case round =>
    obtain ⟨rfl, rfl⟩ := hrel
    go_wp2
    go_ret
    exact ⟨rfl, rfl⟩

theorem Octets.nil : Octets [] := fun i => by simp

theorem more_has (c : Int) (a : Option Addr) (n cap : Nat) (zs : List Int) (w : World) (hn : zs.length = n) (hB : Has w a zs) (hz : Octets zs) (hT : Tab w) (hc0 : 0 ≤ c) (hc1 : c < 4294967296) (hl : n ≤ 140737488355328) :
    Calls Tryd.prog 54 #[.int .u32 c, .slice a n cap] w fun e w' => e = .returned (.int .u32 (moreF c zs)) ∧ w' = w := by
  subst hn
  rcases hB with ⟨rfl, rfl⟩ | ⟨x, rfl, hB⟩
  · exact more_empty c none cap w hc0 hc1
  · by_cases h0 : zs.length = 0
    · obtain rfl : zs = [] := List.length_eq_zero_iff.1 h0
      exact more_empty c (some x) cap w hc0 hc1
    · obtain ⟨b, off, rfl, hc⟩ := ints_at (k := .u8) hB (by omega)
      exact more_any c b off cap zs w hc0 hc1 hT hc hz (by unfold maxLen; omega)

set_option maxHeartbeats 400000 in
theorem crc_has (a : Option Addr) (n cap : Nat) (zs : List Int) (w : World) (hn : zs.length = n) (hB : Has w a zs) (hz : Octets zs) (hT : Tab w) (hl : n ≤ 140737488355328) :
    Calls Tryd.prog 55 #[.slice a n cap] w fun e w' => e = .returned (.int .u32 (moreF 0 zs)) ∧ w' = w := by
  go_enter Tryd.func55, Tryd.ntmps55
  go_wp2_with (go_at_call 54; refine (more_has 0 a n cap zs _ hn hB hz hT (by decide) (by decide) hl).mono ?_; rintro e w' ⟨rfl, rfl⟩)
  go_ret
  exact ⟨rfl, rfl⟩

theorem moreF_append (c : Int) (xs ys : List Int) (hz : Octets xs) (h0 : 0 ≤ c) (h1 : c < 4294967296) : moreF (moreF c xs) ys = moreF c (xs ++ ys) := by
  have fold_bd : ∀ (l : List Int) (x : Int), Octets l → 0 ≤ x → x < 4294967296 → 0 ≤ l.foldl stepB x ∧ l.foldl stepB x < 4294967296 := by
    intro l
    induction l with
    | nil => intro x _ h0 h1; exact ⟨h0, h1⟩
    | cons v l ih =>
      intro x hl h0 h1
      have hv := hl 0
      have b := stepB_bd x v h0 h1 hv.1 hv.2
      exact ih _ (fun i => by simpa using hl (i + 1)) b.1 b.2
  have fb := flip_bd c h0 h1
  have lb := fold_bd xs _ hz fb.1 fb.2
  unfold moreF
  rw [flip_flip _ lb.1 lb.2, List.foldl_append]
theorem moreF_nil (c : Int) (h0 : 0 ≤ c) (h1 : c < 4294967296) : moreF c [] = c := flip_flip c h0 h1
theorem moreF_bd (c : Int) (xs : List Int) (hz : Octets xs) (h0 : 0 ≤ c) (h1 : c < 4294967296) : 0 ≤ moreF c xs ∧ moreF c xs < 4294967296 := by
  have fold_bd : ∀ (l : List Int) (x : Int), Octets l → 0 ≤ x → x < 4294967296 → 0 ≤ l.foldl stepB x ∧ l.foldl stepB x < 4294967296 := by
    intro l
    induction l with
    | nil => intro x _ h0 h1; exact ⟨h0, h1⟩
    | cons v l ih =>
      intro x hl h0 h1
      have hv := hl 0
      have b := stepB_bd x v h0 h1 hv.1 hv.2
      exact ih _ (fun i => by simpa using hl (i + 1)) b.1 b.2
  have fb := flip_bd c h0 h1
  have lb := fold_bd xs _ hz fb.1 fb.2
  exact flip_bd _ lb.1 lb.2
end Go.Proofs.YteeclghhoioapaaDoor
