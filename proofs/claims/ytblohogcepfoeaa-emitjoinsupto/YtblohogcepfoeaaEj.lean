/-
  The walk of EmitJoins.
-/
import Derived.Test.YtblohogcepfoeaaJn
import Derived.Test.YtblohogcepfoeaaRs
import Derived.Deep.QuietTactic
namespace Go.Proofs.Ytblohogcepfoeaa
open Go.RowKit
set_option linter.unusedVariables false
set_option linter.unusedSimpArgs false
set_option maxRecDepth 100000
theorem Try.info9 : (Try.prog.info? 9).map (fun i => (i.zero, i.size, i.bytes)) = some (some (.string ⟨#[]⟩), 1, 16) := by kernel_rfl
def strV (ds : List (List UInt8)) : List Value := ds.map fun d => .string ⟨d.toArray⟩
/-- append of a source that is nil, or there -/
theorem wpList_append_src {P : Program} (w : World) {ops : Array Oper} {rest : List Oper} {o : Oper} {a : Act} {Q : Exit → Act → World → Prop} (hgd : o.guard = none) (s x : Operand) (t : TypeId)
    (ho : o.op = .call { callee := .builtin .append, args := #[s, x], argTypes := #[t, t] })
    (base : Nat) (e : TypeId) (i : TypeInfo) (z : Value) (size bytes : Nat) (ht : P.underlying t = some (.slice e)) (hi : P.info? e = some i) (hz : i.zero = some z)
    (hsize : i.size = size) (hby : i.bytes = bytes) (hzs : z.cells.size = size) (hsz : 0 < size)
    (v : Value) (n : Nat) (xs : List Value) (hs : a.eval s = v) (hown : w.ownsRow base e size v n xs)
    (ao : Option Addr) (m c : Nat) (news : List Value) (hx : a.eval x = .slice ao m c)
    (hsrc : (ao = none ∧ m = 0 ∧ c = 0 ∧ news = []) ∨ ∃ ad, ao = some ad ∧ news.length = m * size ∧ ∀ j u, news[j]? = some u → w.cell? (ad.add j) = some u) (h1 : ∀ u ∈ news, u.oneCell' = true)
    (h63 : n + m ≤ maxLen) (hbytes : (n + m) * bytes ≤ 140737488355328) (hbase : base ≤ w.heap.size)
    (h : ∀ v' w', w'.ownsRow base e size v' (n + m) (xs ++ news) → w.grownBy w' v.ownBlock → wpList P ops Q rest (a.put o.dst v') w') : wpList P ops Q (o :: rest) a w := by
  rcases hsrc with ⟨rfl, rfl, rfl, rfl⟩ | ⟨ad, rfl, hl, hnews⟩
  · refine wpList_append_own_none hgd s x t ho base e i size ht hi v n xs hs hown hx (h v w ?_ ?_)
    · rw [List.append_nil]; exact hown
    · exact ⟨rfl, rfl, rfl, Nat.le_refl _, fun _ _ _ => rfl⟩
  · exact wpList_append_own w hgd s x t ho base e i z size bytes ht hi hz hsize hby hzs hsz v n xs hs hown ad m c news hx hl hnews h1 h63 hbytes hbase (fun v' w' h2 h3 _ => h v' w' h2 h3)
theorem own_empty (w : World) (e : TypeId) (size : Nat) : (w.alloc (.cells #[] e)).ownsRow w.heap.size e size (.slice (some ⟨w.heap.size, 0, none⟩) 0 0) 0 [] :=
  ⟨by simp, .inr ⟨w.heap.size, 0, #[], rfl, Nat.le_refl _, heap_alloc_new w _, Nat.le_refl _, by decide, by simp, by simp⟩⟩
theorem own_strs {w : World} {base n : Nat} {v : Value} {ds : List (List UInt8)} (hn : ds.length = n) (h : w.ownsRow base 9 1 v n (strV ds)) : ∃ ao cp, v = .slice ao n cp ∧ Strs w ao ds := by
  rcases h.2 with ⟨rfl, h0⟩ | ⟨g, cp, cur, rfl, _⟩
  · subst h0
    exact ⟨none, 0, rfl, .inl ⟨rfl, List.length_eq_zero_iff.1 hn⟩⟩
  · refine ⟨_, cp, rfl, .inr ⟨_, rfl, fun j d hd => h.cells rfl j _ ?_⟩⟩
    simp [strV, hd]
theorem strV_one (ds : List (List UInt8)) : ∀ u ∈ strV ds, u.oneCell' = true := by
  intro u hu
  obtain ⟨z, _, rfl⟩ := List.mem_map.1 hu
  rfl
theorem Strs.src {w : World} {a : Option Addr} {n c : Nat} {ds : List (List UInt8)} (h : Strs w a ds) (hn : ds.length = n) (hb : a = none → c = 0) : (a = none ∧ n = 0 ∧ c = 0 ∧ strV ds = []) ∨ ∃ ad, a = some ad ∧ (strV ds).length = n * 1 ∧ ∀ j u, (strV ds)[j]? = some u → w.cell? (ad.add j) = some u := by
  rcases h with ⟨rfl, rfl⟩ | ⟨x, rfl, hc⟩
  · exact .inl ⟨rfl, hn.symm, hb rfl, rfl⟩
  · refine .inr ⟨x, rfl, by simp [strV, hn], fun j u hu => ?_⟩
    simp only [strV, List.getElem?_map, Option.map_eq_some_iff] at hu
    obtain ⟨d, hd, rfl⟩ := hu
    exact hc j d hd
theorem SameP.refl (l : List Nx) : SameP l l := ⟨rfl, fun j o p h1 h2 => by rw [h1] at h2; cases h2; exact ⟨rfl, rfl, rfl, rfl⟩⟩
set_option maxHeartbeats 8000000 in
theorem emitJoins_walk (w : World) (a b c : Option Addr) (n cn m cm r cr : Nat) (ds : List (List UInt8)) (l1 l2 : List Nx) (hn : ds.length = n) (hl : n ≤ 2 ^ 30) (hS : Strs w a ds) (ht : tot ds ≤ 2 ^ 30) (hbare : a = none → cn = 0)
    (hm : l1.length = m) (hr : l2.length = r) (hml : m ≤ 140737488351232) (hrl : r ≤ 140737488351232) (h1 : Ns w b l1) (h2 : Ns w c l2) :
    Calls Try.prog 3 #[.slice a n cn, .slice b m cm, .slice c r cr] w fun e w' => e = .returned (.bool true) ∧ Below w.heap.size w w' := by
  have HS := hideL hS
  have HN := hideL hn
  have HT := hideL ht
  have HM := hideL hm
  have HR := hideL hr
  have H1 := hideL h1
  have H2 := hideL h2
  clear hS hn ht hm hr h1 h2
  obtain ⟨i9, hi9, hz90, hz91, hz92⟩ := info_parts Try.info9
  have HBR := hideL hbare
  clear hbare
  go_enter Try.func3, Try.ntmps3
  have hsrc0 := HS.out.below ((Below.refl _ w).alloc (Nat.le_refl _) (.cells #[] 9))
  have HSR := hideL (hsrc0.src HN.out HBR.out)
  clear hsrc0
  go_wp2_with (at_builtin; refine wpList_append_src _ rfl (.tmp 10) (.tmp 11) 22 rfl w.heap.size 9 i9 (.string ⟨#[]⟩) 1 16 Try.underlying22 hi9 hz90 hz91 hz92 rfl (by decide) _ 0 [] rfl (own_empty w 9 1) a n cn (strV ds) rfl HSR.out (strV_one _) (by unfold maxLen; omega) (by omega) (by simp) ?_; intro v1 w1 hown1 hgrow1; rw [Nat.zero_add, List.nil_append] at hown1; have HO := hideL hown1; have HB := hideL (((Below.refl _ w).alloc (Nat.le_refl _) _).grown hgrow1 (by simp) (fun k h => by cases h; exact Nat.le_refl _)); clear hown1 hgrow1)
  obtain ⟨lo, lc, rfl, hls⟩ := own_strs HN.out HO.out
  have HL := hideL hls
  clear hls
  refine (join_any w1 lo n lc ds HN.out (by omega) HL.out HT.out).mono ?_
  rintro e w2 ⟨rfl, b2⟩
  have HB2 := hideL (HB.out.trans (b2.mono HB.out.size))
  have HL2 := hideL (HL.out.below b2)
  have HS2 := hideL (HS.out.below HB2.out)
  have HN1 := hideL (H1.out.below HB2.out)
  have HN2 := hideL (H2.out.below HB2.out)
  clear b2 HL HB HO HS H1 H2 HSR
  go_wp2_with fail
  go_loopw [9] (fun t wr => ∃ (k : Nat), t = .int .i64 k ∧ k ≤ n ∧ ∃ q, wr = w2.drewN q) (fun t _ => n - (intOf t).toNat)
  case atStart => exact ⟨0, rfl, by omega, 0, rfl⟩
  case round =>
    obtain ⟨k, rfl, hk, q, rfl⟩ := hrel
    have k0 : (0 : Int) ≤ k := by omega
    by_cases h3 : k < n
    · have h3' : (k : Int) < n := by omega
      rcases hki : ds[k]? with _ | d
      · have := List.getElem?_eq_none_iff.1 hki; have := HN.out; omega
      obtain ⟨x, hx, hcx⟩ := HL2.out.at_ hki
      obtain ⟨y, hy, hcy⟩ := HS2.out.at_ hki
      subst hx hy
      clear hki
      go_wp2_with fail
      go_quiet (fail)
      go_wp2
      go_roundw
      case rel => exact ⟨k + 1, by go_num, by omega, q + nq, rfl⟩
      case measure => simp [intOf]; omega
    · have h3' : ¬ (k : Int) < n := by omega
      go_wp2_with fail
      refine (rjoin_any _ a n cn ds HN.out (by omega) (HS2.out.below (below_drewN (Below.refl _ _) _)) HT.out).mono ?_
      rintro e w3 ⟨rfl, rfl⟩
      go_wp2_with fail
      refine (same_any _ b c m r cm cr l1 l2 HM.out HR.out hml (HN1.out.below (below_drewN (Below.refl _ _) _)) (HN2.out.below (below_drewN (Below.refl _ _) _))).mono ?_
      rintro e w4 ⟨⟨bb, rfl, hb⟩, b4⟩
      have HB4 := hideL (b4.mono (Nat.le_refl _) : Below w2.heap.size (w2.drewN q) w4)
      have b24 : Below w2.heap.size w2 w4 := (below_drewN (Below.refl _ _) q).trans b4
      have N14 := hideL (HN1.out.below b24)
      have N24 := hideL (HN2.out.below b24)
      have HB24 := hideL b24
      have HE := hideL hb
      clear hb b4 b24 HB4
      go_wp2_with fail
      refine (rsame_any _ b c m r cm cr l1 l2 HM.out HR.out hml N14.out N24.out).mono ?_
      rintro e w5 ⟨⟨bb2, rfl, hb⟩, b5⟩
      obtain rfl : bb = bb2 := by
        have h1 := HE.out
        cases bb <;> cases bb2 <;> simp_all
      have N15 := hideL (N14.out.below b5)
      have HB5 := hideL (HB24.out.trans (b5.mono HB24.out.size))
      clear hb b5 N14 N24 HB24
      go_wp2_with fail
      refine (same_any _ b b m m cm cm l1 l1 HM.out HM.out hml N15.out N15.out).mono ?_
      rintro e w6 ⟨⟨b3, rfl, hb⟩, b6⟩
      obtain rfl : b3 = true := hb.2 (SameP.refl _)
      have HB6 := hideL (HB2.out.trans ((HB5.out.trans (b6.mono HB5.out.size)).mono HB2.out.size))
      clear hb b6
      go_wp2
      go_ret
      exact ⟨rfl, HB6.out⟩
end Go.Proofs.Ytblohogcepfoeaa
