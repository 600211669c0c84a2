/- Copy of the document's source. -/
import Derived.Test.YtfolfeaednmcoaaSrc4
namespace Go.Proofs.Ytfolfeaednmcoaa
open Go.RowKit
set_option linter.unusedVariables false
set_option linter.unusedSimpArgs false
theorem step_append_own {P : Program} {ops : Array Oper} {o : Oper} {a : Act} {w : World} {K : Act → World → Prop} {Q : Exit → Act → World → Prop} {E : Prop}
    (hg : o.guard = none) (s x : Operand) (t : TypeId) (hop : o.op = Op.call { callee := Callee.builtin Builtin.append, args := #[s, x], argTypes := #[t, t] })
    (base : Nat) (e : TypeId) (i : TypeInfo) (z : Value) (size bytes : Nat) (h1 : P.underlying t = some (.slice e)) (h2 : P.info? e = some i) (h3 : i.zero = some z) (h4 : i.size = size) (h5 : i.bytes = bytes) (h6 : z.cells.size = size) (h7 : 0 < size)
    (v : Value) (n : Nat) (xs : List Value) (hs : a.eval s = v) (hown : w.ownsRow base e size v n xs)
    (ad : Addr) (m c : Nat) (news : List Value) (hx : a.eval x = .slice (some ad) m c) (hn : news.length = m * size) (hc : ∀ j u, news[j]? = some u → w.cell? (ad.add j) = some u) (h1c : ∀ u ∈ news, u.oneCell' = true)
    (b1 : n + m ≤ maxLen) (b2 : (n + m) * bytes ≤ 140737488355328) (hb : base ≤ w.heap.size)
    (hK : ∀ v' w', w'.ownsRow base e size v' (n + m) (xs ++ news) → w.grownBy w' v.ownBlock → K (a.put o.dst v') w') :
    if Region.wanted o (yielded ops a.tmps) = true then Oper.wp P o a w K Q else E := by
  have hw : Region.wanted o (yielded ops a.tmps) = true := by simp [Region.wanted, hg]
  rw [if_pos hw]
  obtain ⟨v', w', hrun, r1, r2, _⟩ := run_append_own (P := P) w base t o.type e i z size bytes h1 h2 h3 h4 h5 h6 h7 v n xs hown ad m c news hn hc h1c b1 b2 hb
  unfold Oper.wp
  simp [execOp, hop, resolve, invoke, builtin, hs, hx, hrun, Result.andThen]
  exact hK v' w' r1 r2

theorem RS.made {w w1 : World} {a1 : Option Addr} {R d1 : Nat} {st : Int} {r : List Int} (hb : Below w.heap.size w w1) (hr : w1.ownsRow w.heap.size 22 1 (.slice a1 R d1) R (uvals r)) (hR : r.length = R) :
    RS (w1.alloc (.cells #[.slice a1 R d1, .int .u64 st] 50 (0, 0))) w.heap.size w1.heap.size r st (w1.heap.size :: (Value.slice a1 R d1).ownBlock.toList) := by
  subst hR
  exact ⟨a1, d1, Go.heap_alloc_new w1 _, own_block hr (fun k hk => Below.heap_alloc w1 _ k (hr.lt k hk).2), hb.size, rfl⟩
theorem rcopy_any (b base : Nat) (rest : List Int) (st : Int) (bs : List Nat) (w : World) (hD : RS w base b rest st bs) (hr : rest.length ≤ 1048576) :
    Calls Try.prog 26 #[.pointer (some ⟨b, 0, none⟩)] w fun e w' => ∃ b' bs', e = .returned (.pointer (some ⟨b', 0, none⟩)) ∧ RS w' w.heap.size b' rest st bs' ∧ Below w.heap.size w w' := by
  obtain ⟨a, c, h1, h2, h6, rfl⟩ := hD
  obtain ⟨i0, hi, hz0, hz1, hz2⟩ := info_parts Try.info22
  have hB : Below w.heap.size w w.drew := (Below.refl _ _).drew
  obtain ⟨R, hR⟩ : ∃ R, rest.length = R := ⟨_, rfl⟩
  rw [hR] at h1 h2 hr
  have HR : Hid (rest.length = R) := hR
  have c0 : w.cell? ⟨b, 0, none⟩ = some (.slice a R c) := by simp [World.cell?, h1]
  have c1 : w.cell? ⟨b, 1, none⟩ = some (.int .u64 st) := by simp [World.cell?, h1]
  have q1 : Hid ((uvals rest).length = R * 1) := (by rw [uvals_length, HR.out, Nat.mul_one] : (uvals rest).length = R * 1)
  have q2 : Hid (0 + R ≤ maxLen) := (by unfold maxLen; omega : 0 + R ≤ maxLen)
  have q3 : Hid ((0 + R) * 8 ≤ 140737488355328) := (by omega : (0 + R) * 8 ≤ 140737488355328)
  have q4 : Hid (w.heap.size ≤ (w.drew.alloc (.cells #[] 22 (0, 0))).heap.size) := (by simp : w.heap.size ≤ (w.drew.alloc (.cells #[] 22 (0, 0))).heap.size)
  have n0 := World.new_ne w.drew ⟨b, 0, none⟩ c0
  have n1 := World.new_ne w.drew ⟨b, 1, none⟩ c1
  have HU0 := own_Ul h2
  cases a with
  | none =>
    have hn0 : R = 0 ∧ c = 0 := by
      rcases h2.2 with ⟨h, _⟩ | ⟨g, cp, cur, h, _⟩
      · injection h with _ h1 h2; exact ⟨h1, h2⟩
      · cases h
    obtain ⟨rfl, rfl⟩ := hn0
    have hr0 : rest = [] := List.length_eq_zero_iff.1 hR
    subst hr0
    have hb1 : Below w.heap.size w (w.drew.alloc (.cells #[] 22 (0, 0))) := hB.alloc (Nat.le_refl _) _
    have HO : Hid ((w.drew.alloc (.cells #[] 22 (0, 0))).ownsRow w.heap.size 22 1 (.slice (some ⟨w.heap.size, 0, none⟩) 0 0) 0 (uvals [])) := own_empty w.drew
    clear h1 h2 h6 hR HU0 q1 q2 q3 q4
    go_enter Try.func26, Try.ntmps26
    go_wp2_with fail
    go_region_held3 (fun w' => w'.cell? ⟨b, 0, none⟩ = some (.slice none 0 0) ∧ w'.cell? ⟨b, 1, none⟩ = some (.int .u64 st)) (go_keep) (fail)
    go_wp2
    go_ret
    have hb0 : Below w.heap.size w (w.alloc (.cells #[] 22 (0, 0))) := (Below.refl _ _).alloc (Nat.le_refl _) _
    have hm := RS.made (st := st) (r := []) hb0 (own_empty w) rfl
    have hs : (w.alloc (.cells #[] 22 (0, 0))).heap.size = w.heap.size + 1 := by simp
    rw [hs] at hm
    exact ⟨_, _, rfl, hm.keep (fun _ _ => rfl), (hb0.alloc hb0.size _).drew⟩
  | some ad =>
    have HU : Hid (∀ j u, (uvals rest)[j]? = some u → (w.drew.alloc (.cells #[] 22 (0, 0))).cell? (ad.add j) = some u) := ul_news (HU0.below (hB.alloc (Nat.le_refl _) _))
    have HO : Hid ((w.drew.alloc (.cells #[] 22 (0, 0))).ownsRow w.heap.size 22 1 (.slice (some ⟨w.heap.size, 0, none⟩) 0 0) 0 []) := own_empty w.drew
    clear h1 h2 h6 hR HU0
    go_enter Try.func26, Try.ntmps26
    go_wp2_with fail
    go_region_held3 (fun w' => w'.cell? ⟨b, 0, none⟩ = some (.slice (some ad) R c) ∧ w'.cell? ⟨b, 1, none⟩ = some (.int .u64 st)) (go_keep) (first | (refine step_append_own rfl (.tmp 5) (.tmp 9) 48 rfl w.heap.size 22 i0 (.int .u64 0) 1 8 Try.underlying48 hi hz0 hz1 hz2 rfl (by decide) _ 0 [] rfl HO.out ad R c (uvals rest) rfl q1.out HU.out (uvals_one _) q2.out q3.out q4.out ?_; intro v w1 hown hgrow; obtain ⟨a', c', hv, HR1, HB1⟩ := empty_grown (w := w.drew) hown hgrow; subst hv; have x0 := cell_of_below (hB.trans HB1.out) c0; have x1 := cell_of_below (hB.trans HB1.out) c1; clear hown hgrow))
    go_wp2
    go_ret
    have hb1 := hB.trans HB1.out
    exact ⟨_, _, rfl, RS.made hb1 HR1.out HR.out, hb1.alloc hb1.size _⟩
end Go.Proofs.Ytfolfeaednmcoaa
