/-
  PathsBest: the walk.
-/
import Derived.Test.YtplbdnndpgfljaaPv
import Derived.Test.YtplbdnndpgfljaaPp
import Derived.Deep.QuietTactic
import Derived.BigQuiet
namespace Go.Proofs.Ytplbdnndpgfljaa
open Go.RowKit
set_option linter.unusedVariables false
set_option linter.unusedSimpArgs false
set_option maxRecDepth 100000
theorem strs_front {w : World} {a : Option Addr} {ds es : List (List UInt8)} (h : Strs w a (ds ++ es)) : Strs w a ds := by
  rcases h with ⟨rfl, h⟩ | ⟨x, rfl, h⟩
  · exact .inl ⟨rfl, (List.append_eq_nil_iff.1 h).1⟩
  · exact .inr ⟨x, rfl, fun j d hd => h j d (by rw [List.getElem?_append_left (List.getElem?_eq_some_iff.1 hd).1]; exact hd)⟩
theorem own_more {w : World} {base n : Nat} {e : TypeId} {v : Value} {xs : List Value} (h : w.ownsRow base e 1 v (n + 1) xs) : ∃ g cp, v = .slice (some ⟨g, 0, none⟩) (n + 1) cp ∧ n + 1 ≤ cp ∧ cp ≤ maxLen := by
  rcases h.2 with ⟨_, h0⟩ | ⟨g, cp, cur, rfl, _⟩
  · omega
  · exact ⟨g, cp, rfl, own_cap h⟩
theorem add_at (g k : Nat) : (⟨g, 0, none⟩ : Addr).add k = ⟨g, k, none⟩ := by
  unfold Addr.add
  split
  · rename_i h; first | (subst h; rfl) | (simp at h; subst h; rfl)
  · simp
def markL : List UInt8 := [109, 97, 114, 107]
theorem mark_src (W : World) (j : Nat) (u : Value) (hu : (strV [markL])[j]? = some u) : (W.alloc (.cells #[.string ⟨#[109, 97, 114, 107]⟩] 9)).cell? ((⟨W.heap.size, 0, none⟩ : Addr).add j) = some u := by
  refine World.news_of_block (heap_alloc_new W _) j _ ?_
  rcases j with _ | j
  · simp [strV, markL] at hu; subst hu; rfl
  · simp [strV] at hu
set_option maxHeartbeats 8000000 in
theorem best_law (w : World) (a : Option Addr) (n cn : Nat) (ds : List (List UInt8)) (s : List UInt8) (hn : ds.length = n) (hl : n ≤ 8796093021952) (hS : Strs w a ds) (hs : ∀ d ∈ ds, d.length ≤ 2 ^ 61) (h2 : s.length ≤ 2 ^ 61) (hbare : a = none → cn = 0) :
    Calls Try.prog 6 #[.slice a n cn, .string ⟨s.toArray⟩] w fun e w' => e = .returned (.bool true) ∧ Below w.heap.size w w' := by
  have hbest : Hid (∀ (w : World) (lo : Option Addr) (lc : Nat), Strs w lo ds → Calls Try.prog 31 #[.slice lo n lc, .string ⟨s.toArray⟩] w fun e w' => e = .returned (.tuple #[.int .i64 (if hostB s then (bstS (fldF s) ds n).1 else 0), .bool (hostB s && !((bstS (fldF s) ds n).2.1 == 3))]) ∧ Below w.heap.size w w') := hide2 (fun w lo lc hL => best_any w lo n lc ds s hn (by omega) hL hs h2)
  have hrb : Hid (∀ (w : World) (lo : Option Addr) (lc : Nat), Strs w lo ds → Calls Try.prog 32 #[.slice lo n lc, .string ⟨s.toArray⟩] w fun e w' => e = .returned (.tuple #[.int .i64 (if hostB s then (bstS (fldF s) ds n).1 else 0), .bool (hostB s && !((bstS (fldF s) ds n).2.1 == 3))]) ∧ Below w.heap.size w w') := hide2 (fun w lo lc hL => (rbest_any w lo n lc ds s hn (by omega) hL hs h2).mono fun e w' h => ⟨h.1.best hn, h.2⟩)
  generalize (if hostB s then (bstS (fldF s) ds n).1 else 0) = r at hbest hrb
  generalize (hostB s && !((bstS (fldF s) ds n).2.1 == 3)) = b at hbest hrb
  have HS := hide2 hS
  have HN := hide2 hn
  have HBR := hide2 hbare
  clear hS hn hbare hs
  obtain ⟨i9, hi9, hz90, hz91, hz92⟩ := info_parts Try.info9
  by_cases hbig : 200 < n
  · have hbig' : (200 : Int) < n := by omega
    go_enter Try.func6, Try.ntmps6
    go_wp2
    go_ret
    exact ⟨rfl, Below.refl _ _⟩
  · have hbig' : ¬ (200 : Int) < n := by omega
    have hbig2 : n ≤ 200 := by omega
    have HSR := hide2 (HS.out.src HN.out HBR.out)
    go_enter Try.func6, Try.ntmps6
    go_wp2_with (first
      | (at_builtin; refine wpList_append_src _ rfl (.tmp 14) (.tmp 15) 27 rfl w.heap.size 9 i9 (.string ⟨#[]⟩) 1 16 Try.underlying27 hi9 hz90 hz91 hz92 rfl (by decide) _ 0 [] rfl (World.ownsRow_nil w w.heap.size 9 1) a n cn (strV ds) rfl HSR.out (strV_one _) (by unfold maxLen; omega) (by omega) (Nat.le_refl _) ?_; intro v1 w1 hown1 hgrow1; rw [Nat.zero_add, List.nil_append] at hown1; have HO := hide2 hown1; have HB1 := hide2 ((Below.refl _ w).grown hgrow1 (Nat.le_refl _) (fun k h => by cases h)); clear hown1 hgrow1)
      | (at_builtin; refine wpList_append_src _ rfl (.tmp 16) (.tmp 17) 27 rfl w.heap.size 9 i9 (.string ⟨#[]⟩) 1 16 Try.underlying27 hi9 hz90 hz91 hz92 rfl (by decide) _ n (strV ds) rfl (HO.out.alloc _) (some ⟨w1.heap.size, 0, none⟩) 1 1 (strV [markL]) rfl (.inr ⟨_, rfl, rfl, mark_src w1⟩) (strV_one _) (by unfold maxLen; omega) (by omega) (Nat.le_trans HB1.out.size (by simp)) ?_; intro v2 w2 hown2 hgrow2; rw [show strV ds ++ strV [markL] = strV (ds ++ [markL]) by simp [strV]] at hown2; obtain ⟨g, gc, rfl, hg1, hg2⟩ := own_more hown2; have HO2 := hide2 hown2; have HB2 := hide2 (((HB1.out.alloc HB1.out.size _)).grown hgrow2 (Nat.le_trans HB1.out.size (by simp)) (fun k h => (HO.out.lt k h).1)); clear hown2 hgrow2))
    have hg1' : (n : Int) ≤ gc := by omega
    have hg3 : (n : Int) + 1 ≤ gc := by omega
    have n0 : (0 : Int) ≤ n := by omega
    obtain ⟨lo, lc, he, hls⟩ := own_strs (ds := ds ++ [markL]) (by simp [HN.out]) HO2.out
    cases he
    have HL := hide2 hls
    have HS2 := hide2 (HS.out.below HB2.out)
    clear hls HO HO2 HS HSR HB1
    go_wp2_with fail
    refine (hbest.out w2 _ _ (strs_front HL.out)).mono ?_
    rintro e w3 ⟨rfl, hb⟩
    have HB3 := hide2 (below_two HB2.out hb)
    have HS3 := hide2 (HS2.out.below hb)
    have HL3 := hide2 (HL.out.below hb)
    clear hb HB2 HS2 HL
    go_wp2_with fail
    refine (hrb.out w3 _ _ HS3.out).mono ?_
    rintro e w4 ⟨rfl, hb⟩
    have HB4 := hide2 (below_two HB3.out hb)
    have HS4 := hide2 (HS3.out.below hb)
    have HL4 := hide2 (HL3.out.below hb)
    clear hb HB3 HS3 HL3
    go_wp2_with fail
    go_loopw [10] (fun t wr => ∃ (k : Nat), t = .int .i64 k ∧ k ≤ n ∧ ∃ q, wr = w4.drewN q) (fun t _ => n - (intOf t).toNat)
    case atStart => exact ⟨0, rfl, by omega, 0, rfl⟩
    case round =>
      obtain ⟨k, rfl, hk, q, rfl⟩ := hrel
      have k0 : (0 : Int) ≤ k := by omega
      by_cases h3 : k < n
      · have h3' : (k : Int) < n := by omega
        have h4' : (k : Int) < n + 1 := by omega
        rcases hki : ds[k]? with _ | d
        · have := List.getElem?_eq_none_iff.1 hki; have := HN.out; omega
        obtain ⟨x, hx, hcx⟩ := HS4.out.at_ hki
        subst hx
        obtain ⟨y, hy, hcy⟩ := HL4.out.at_ (i := k) (d := d) (by rw [List.getElem?_append_left (List.getElem?_eq_some_iff.1 hki).1]; exact hki)
        cases hy
        have hcz : w4.cell? ⟨g, k, none⟩ = some (.string ⟨d.toArray⟩) := by rw [add_at] at hcy; exact hcy
        clear hki hcy
        go_wp2_with fail
        go_quiet (fail)
        go_wp2
        go_roundw
        case rel => exact ⟨k + 1, by go_num, by omega, q + nq, rfl⟩
        case measure => simp [intOf]; omega
      · have h3' : ¬ (k : Int) < n := by omega
        have h5' : (n : Int) < n + 1 := by omega
        obtain ⟨y, hy, hcy⟩ := HL4.out.at_ (i := n) (d := markL) (by rw [List.getElem?_append_right (by rw [HN.out]; exact Nat.le_refl _), HN.out]; simp)
        cases hy
        have hcz : w4.cell? ⟨g, n, none⟩ = some (.string ⟨#[109, 97, 114, 107]⟩) := by rw [add_at] at hcy; exact hcy
        clear hcy
        go_wp2
        go_ret
        exact ⟨rfl, below_drewN HB4.out _⟩
end Go.Proofs.Ytplbdnndpgfljaa
