/-
  The contract of the statements' own helper lent: bytes in memory of their own, two marks behind them.
-/
import Derived.Test.YteeclghhoioapaaDoorMore
import Derived.Deep.AppendLies
import Derived.Laws.AppendOwnNone
namespace Go.Proofs.YteeclghhoioapaaDoor
open Go.RowKit

theorem Tryd.info5 : (Tryd.prog.info? 5).map (fun i => (i.zero, i.size, i.bytes)) = some (some (.int .u8 0), 1, 1) := by kernel_rfl

/-- What is read behind a slice's address: nothing, or these bytes. -/
def Has (w : World) (a : Option Addr) (zs : List Int) : Prop := (a = none ∧ zs = []) ∨ ∃ x, a = some x ∧ ∀ j, j < zs.length → w.cell? (x.add j) = some (.int .u8 (zs.getD j 0))

def vals (zs : List Int) : List Value := zs.map (Value.int .u8)
theorem vals_length (zs : List Int) : (vals zs).length = zs.length := by simp [vals]
theorem vals_at (zs : List Int) (j : Nat) (u : Value) (h : (vals zs)[j]? = some u) : j < zs.length ∧ u = .int .u8 (zs.getD j 0) := by
  simp only [vals, List.getElem?_map, Option.map_eq_some_iff] at h
  obtain ⟨z, hz, rfl⟩ := h
  have hj := (List.getElem?_eq_some_iff.1 hz).1
  exact ⟨hj, by simp [List.getD, hz]⟩
theorem vals_get (zs : List Int) (j : Nat) (h : j < zs.length) : (vals zs)[j]? = some (.int .u8 (zs.getD j 0)) := by
  simp [vals, h]
theorem vals_one (zs : List Int) : ∀ u ∈ vals zs, u.oneCell' = true := by
  intro u hu
  obtain ⟨z, _, rfl⟩ := List.mem_map.1 hu
  rfl

theorem vals_append (a b : List Int) : vals (a ++ b) = vals a ++ vals b := by simp [vals]
theorem own_cap {w : World} {base : Nat} {e : TypeId} {size g n cap : Nat} {xs : List Value} (h : w.ownsRow base e size (.slice (some ⟨g, 0, none⟩) n cap) n xs) : n ≤ cap ∧ cap ≤ maxLen := by
  rcases h.2 with ⟨h, _⟩ | ⟨g', cap', cur, hv, _, _, h1, h2, _⟩
  · cases h
  · cases hv; exact ⟨h1, h2⟩

/-- What lent leaves. -/
def Lent (w : World) (zs : List Int) (v : Value) (w' : World) : Prop :=
  ∃ g cap, v = .slice (some ⟨g, 0, none⟩) zs.length cap ∧ w'.ownsRow w.heap.size 5 1 (.slice (some ⟨g, 0, none⟩) (zs.length + 2) cap) (zs.length + 2) (vals (zs ++ [201, 202])) ∧ Below w.heap.size w w'

set_option maxHeartbeats 400000 in
theorem lent_some (x : Addr) (cap : Nat) (zs : List Int) (w : World) (hB : ∀ j, j < zs.length → w.cell? (x.add j) = some (.int .u8 (zs.getD j 0))) (hl : zs.length ≤ 140737488351232) :
    Calls Tryd.prog 12 #[.slice (some x) zs.length cap] w fun e w' => ∃ v, e = .returned v ∧ Lent w zs v w' := by
  obtain ⟨i0, hi, hz0, hz1, hz2⟩ := info_parts Tryd.info5
  have HN : Hid (∀ j u, (vals zs)[j]? = some u → w.cell? (x.add j) = some u) := fun j u h => by
    obtain ⟨hj, rfl⟩ := vals_at zs j u h
    exact hB j hj
  clear hB
  go_enter Tryd.func12, Tryd.ntmps12
  go_wp2_with (first
    | (at_builtin; refine wpList_append_own _ rfl (.tmp 4) (.tmp 5) 24 rfl w.heap.size 5 i0 (.int .u8 0) 1 1 Tryd.underlying24 hi hz0 hz1 hz2 rfl (by decide) (.slice none 0 0) 0 [] rfl (World.ownsRow_nil _ _ _ _) x zs.length cap (vals zs) rfl (by simp [vals_length]) HN.out (vals_one zs) (by unfold maxLen; omega) (by omega) (Nat.le_refl _) ?_; intro v1 w1 hown1 hgrow1 hnil1; simp only [Nat.zero_add, List.nil_append] at hown1)
    | (at_builtin; refine wpList_append_lies _ rfl (.tmp 6) (.tmp 7) 24 rfl w.heap.size 5 i0 (.int .u8 0) 1 1 Tryd.underlying24 hi hz0 hz1 hz2 rfl (by decide) v1 zs.length (vals zs) rfl (hown1.alloc _) ⟨w1.heap.size, 0, none⟩ 2 2 (vals [201, 202]) rfl rfl ?_ (vals_one _) (by decide) (by unfold maxLen; omega) (by omega) ?_ _ rfl ?_))
  · intro j u h; simpa [vals] using h
  · have := hgrow1.size; omega
  intro g cp w2 hown2 hgrow2 hat hlt
  obtain ⟨hcp, hcm⟩ := own_cap hown2
  unfold maxLen at hcm
  have HL : Hid (Lent w zs (.slice (some ⟨g, 0, none⟩) zs.length cp) w2) := by
    refine ⟨g, cp, rfl, by rw [vals_append]; exact hown2, ?_⟩
    have b1 : Below w.heap.size w w1 := (Below.refl _ w).grown hgrow1 (Nat.le_refl _) (fun k h => by simp [Value.ownBlock] at h)
    exact (b1.alloc hgrow1.size _).grown hgrow2 (by have := hgrow1.size; simp; omega) (fun k h => (hown1.lt k h).1)
  clear hown2 hgrow2 hat hlt hown1 hgrow1 hnil1 HN
  go_wp2
  go_ret
  exact ⟨_, rfl, HL.out⟩

set_option maxHeartbeats 400000 in
theorem lent_none (w : World) :
    Calls Tryd.prog 12 #[.slice none 0 0] w fun e w' => ∃ v, e = .returned v ∧ Lent w [] v w' := by
  obtain ⟨i0, hi, hz0, hz1, hz2⟩ := info_parts Tryd.info5
  go_enter Tryd.func12, Tryd.ntmps12
  go_wp2_with (first
    | (at_builtin; refine wpList_append_own_none rfl (.tmp 4) (.tmp 5) 24 rfl w.heap.size 5 i0 1 Tryd.underlying24 hi (.slice none 0 0) 0 [] rfl (World.ownsRow_nil _ _ _ _) rfl ?_)
    | (at_builtin; refine wpList_append_lies _ rfl (.tmp 6) (.tmp 7) 24 rfl w.heap.size 5 i0 (.int .u8 0) 1 1 Tryd.underlying24 hi hz0 hz1 hz2 rfl (by decide) (.slice none 0 0) 0 (vals []) rfl (World.ownsRow_nil _ _ _ _) ⟨w.heap.size, 0, none⟩ 2 2 (vals [201, 202]) rfl rfl ?_ (vals_one _) (by decide) (by unfold maxLen; omega) (by omega) ?_ _ rfl ?_))
  · exact World.news_of_block (heap_alloc_new w _)
  · simp
  intro g cp w2 hown2 hgrow2 hat hlt
  obtain ⟨hcp, hcm⟩ := own_cap hown2
  unfold maxLen at hcm
  have HL : Hid (Lent w [] (.slice (some ⟨g, 0, none⟩) 0 cp) w2) := by
    refine ⟨g, cp, rfl, by rw [vals_append]; exact hown2, ?_⟩
    exact ((Below.refl _ w).alloc (Nat.le_refl _) _).grown hgrow2 (by simp) (fun k h => by simp [Value.ownBlock] at h)
  clear hown2 hgrow2 hat hlt
  go_wp2
  go_ret
  exact ⟨_, rfl, HL.out⟩

theorem lent_any (a : Option Addr) (n cap : Nat) (zs : List Int) (w : World) (hn : zs.length = n) (hB : Has w a zs) (hc : a = none → cap = 0) (hl : n ≤ 140737488351232) :
    Calls Tryd.prog 12 #[.slice a n cap] w fun e w' => ∃ v, e = .returned v ∧ Lent w zs v w' := by
  subst hn
  rcases hB with ⟨rfl, rfl⟩ | ⟨x, rfl, hB⟩
  · obtain rfl := hc rfl
    exact lent_none w
  · exact lent_some x cap zs w hB hl
end Go.Proofs.YteeclghhoioapaaDoor
