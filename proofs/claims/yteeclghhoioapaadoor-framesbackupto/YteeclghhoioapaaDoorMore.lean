/-
  The sum's step and the contract of sum.More and sum.Crc over the landed code.
-/
import Derived.Test.YteeclghhoioapaaDoorRows
import Derived.WalkKit
import Derived.WalkSpells
import Derived.WalkLawsBesides
import Derived.Below
import Derived.Outline
import Derived.Laws.BitsAllLaws
namespace Go.Proofs.YteeclghhoioapaaDoor
open Go.RowKit

def tab : List Int := [0, 274646895, 549293790, 820201905, 1098587580, 1361435347, 1640403810, 1905808397, 2197175160, 2460548119, 2722870694, 2987750089, 3280807620, 3553878443, 3811616794, 4084100981]

/-- The table lies in block 0. -/
def Tab (w : World) : Prop := ∀ i, i < 16 → w.cell? ⟨0, i, none⟩ = some (.int .u32 (tab.getD i 0))

def Octets (zs : List Int) : Prop := ∀ i : Nat, 0 ≤ zs.getD i 0 ∧ zs.getD i 0 ≤ 255

/-- Four turns of the sum's rule, by the table. -/
def nib (y : Int) : Int := bits .xor .u32 (y / 16) (tab.getD (bits .and .u32 y 15).toNat 0)
/-- One byte. -/
def stepB (x v : Int) : Int := nib (nib (bits .xor .u32 x v))
def flip (x : Int) : Int := bits .xor .u32 IntKind.u32.max x
def moreF (c : Int) (zs : List Int) : Int := flip (zs.foldl stepB (flip c))

theorem xor_bd (a b : Int) (h0 : 0 ≤ a) (h1 : a < 4294967296) (h2 : 0 ≤ b) (h3 : b < 4294967296) : 0 ≤ bits .xor .u32 a b ∧ bits .xor .u32 a b < 4294967296 := by
  rw [u32_xor a b h0 h1 h2 h3]
  have : a.toNat ^^^ b.toNat < 2 ^ 32 := Nat.xor_lt_two_pow (by omega) (by omega)
  omega
theorem and15_bd (a : Int) (h0 : 0 ≤ a) (h1 : a < 4294967296) : 0 ≤ bits .and .u32 a 15 ∧ bits .and .u32 a 15 < 16 := by
  rw [u32_and a 15 h0 h1 (by omega) (by omega)]
  have : a.toNat &&& (15 : Int).toNat = a.toNat % 16 := by show a.toNat &&& 15 = _; exact nat_mask4 _
  rw [this]; omega
theorem tab_bd : ∀ i : Nat, 0 ≤ tab.getD i 0 ∧ tab.getD i 0 < 4294967296
  | 0 | 1 | 2 | 3 | 4 | 5 | 6 | 7 | 8 | 9 | 10 | 11 | 12 | 13 | 14 | 15 => by decide
  | n + 16 => by simp [tab]
theorem nib_bd (y : Int) (h0 : 0 ≤ y) (h1 : y < 4294967296) : 0 ≤ nib y ∧ nib y < 4294967296 :=
  xor_bd _ _ (by omega) (by omega) (tab_bd _).1 (tab_bd _).2
theorem stepB_bd (x v : Int) (h0 : 0 ≤ x) (h1 : x < 4294967296) (h2 : 0 ≤ v) (h3 : v ≤ 255) : 0 ≤ stepB x v ∧ stepB x v < 4294967296 := by
  have a := xor_bd x v h0 h1 h2 (by omega)
  have b := nib_bd _ a.1 a.2
  exact nib_bd _ b.1 b.2
theorem flip_bd (x : Int) (h0 : 0 ≤ x) (h1 : x < 4294967296) : 0 ≤ flip x ∧ flip x < 4294967296 :=
  xor_bd _ _ (by decide) (by decide) h0 h1
theorem flip_flip (x : Int) (h0 : 0 ≤ x) (h1 : x < 4294967296) : flip (flip x) = x := by
  have b := flip_bd x h0 h1
  unfold flip at *
  rw [u32_xor _ _ (by decide) (by decide) b.1 b.2, u32_xor _ _ (by decide) (by decide) h0 h1, Int.toNat_natCast, ← Nat.xor_assoc, Nat.xor_self, Nat.zero_xor]
  omega

theorem tab_cell {w : World} (hT : Tab w) (y : Int) (h0 : 0 ≤ y) (h1 : y < 4294967296) : 0 ≤ bits .and .u32 y 15 ∧ bits .and .u32 y 15 < 16 ∧ ∃ t, Hid (tab.getD (bits .and .u32 y 15).toNat 0 = t) ∧ w.cell? ⟨0, (bits .and .u32 y 15).toNat, none⟩ = some (.int .u32 t) ∧ 0 ≤ t ∧ t < 4294967296 := by
  have a := and15_bd y h0 h1
  exact ⟨a.1, a.2, _, rfl, hT _ (by omega), (tab_bd _).1, (tab_bd _).2⟩

theorem fold_snoc (zs : List Int) (k : Nat) (c : Int) (h : k < zs.length) : (zs.take (k + 1)).foldl stepB c = stepB ((zs.take k).foldl stepB c) (zs.getD k 0) := by
  rw [List.take_succ_eq_append_getElem h, List.foldl_append]; simp [h]
theorem ret_u32 {a b : Int} (h : a = b) : Ending.returned (.int .u32 a) = .returned (.int .u32 b) := by rw [h]

set_option maxHeartbeats 400000 in
theorem more_any (c : Int) (b off cap : Nat) (zs : List Int) (w : World) (hc0 : 0 ≤ c) (hc1 : c < 4294967296) (hT : Tab w)
    (hB : ∀ i, i < zs.length → w.cell? ⟨b, off + i, none⟩ = some (.int .u8 (zs.getD i 0))) (hz : Octets zs) (hl : zs.length ≤ maxLen) :
    Calls Tryd.prog 54 #[.int .u32 c, .slice (some ⟨b, off, none⟩) zs.length cap] w fun e w' => e = .returned (.int .u32 (moreF c zs)) ∧ w' = w := by
  unfold maxLen at hl
  have fb := flip_bd c hc0 hc1
  have FC : Hid (flip c = bits .xor .u32 IntKind.u32.max c) := rfl
  go_enter Tryd.func54, Tryd.ntmps54
  go_wp2
  go_loop [0, 11] (fun t i => ∃ k : Nat, ∃ x : Int, k ≤ zs.length ∧ i = .int .i64 k ∧ t = .int .u32 x ∧ 0 ≤ x ∧ x < 4294967296 ∧ Hid (x = (zs.take k).foldl stepB (flip c))) (fun _ i => zs.length - (intOf i).toNat)
  case atStart => exact ⟨0, _, Nat.zero_le _, rfl, rfl, fb.1, fb.2, rfl⟩
  case round =>
    obtain ⟨k, x, hk, rfl, rfl, hx0, hx1, HX⟩ := hrel
    by_cases hlt : k < zs.length
    · have g := hB k hlt
      have o := hz k
      have HS := fold_snoc zs k (flip c) hlt
      rw [← HX.out] at HS
      obtain ⟨v, hv⟩ : ∃ v, zs.getD k 0 = v := ⟨_, rfl⟩
      rw [hv] at g o HS
      obtain ⟨o0, o1⟩ := o
      have HS' : Hid ((zs.take (k + 1)).foldl stepB (flip c) = stepB x v) := HS
      have y1 := xor_bd x v hx0 hx1 o0 (by omega)
      have yb := stepB_bd x v hx0 hx1 o0 o1
      obtain ⟨a0, a1, t1, T1, c1, t10, t11⟩ := tab_cell hT _ y1.1 y1.2
      have y2 := xor_bd (bits .xor .u32 x v / 16) t1 (by omega) (by omega) t10 t11
      obtain ⟨b0, b1, t2, T2, c2, t20, t21⟩ := tab_cell hT _ y2.1 y2.2
      have E : Hid (stepB x v = bits .xor .u32 (bits .xor .u32 (bits .xor .u32 x v / 16) t1 / 16) t2) := by
        show nib (nib _) = _
        have e1 : nib (bits .xor .u32 x v) = bits .xor .u32 (bits .xor .u32 x v / 16) t1 := by unfold nib; rw [T1.out]
        rw [e1]; unfold nib; rw [T2.out]
      clear hv HS hB hz hT HX fb FC
      go_wp2
      go_round
      case rel => exact ⟨k + 1, _, by omega, by go_num, rfl, by rw [← E.out]; exact yb.1, by rw [← E.out]; exact yb.2, by rw [← E.out]; exact HS'.out.symm⟩
      case measure => simp [intOf]; omega
    · go_wp2
      go_ret
      have hX := HX.out
      rw [List.take_of_length_le (by omega)] at hX
      exact ⟨ret_u32 (by rw [hX]; rfl), rfl⟩
end Go.Proofs.YteeclghhoioapaaDoor
