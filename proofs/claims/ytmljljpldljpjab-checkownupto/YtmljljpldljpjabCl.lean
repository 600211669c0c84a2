/-
  The closure that sorts places by the keys of what lies there.
-/
import Derived.Test.YtmljljpldljpjabKc
import Derived.BigQuiet
namespace Go.Proofs.Ytmljljpldljpjab
open Go.RowKit
set_option linter.unusedVariables false
set_option linter.unusedSimpArgs false
set_option maxRecDepth 100000
theorem keyOf_f (w : World) (kd : Int) (nm host route : ByteArray) (ea ta ra : Option Addr) (n1 n2 n3 ec tc rc : Nat) (del : Bool) :
    Calls Try.prog 19 #[.agg #[.int .i64 kd, .string nm, .slice ea n1 ec, .slice ta n2 tc, .string host, .slice ra n3 rc, .string route, .bool del]] w fun e w' => e = .returned (.agg #[.int .i64 kd, .string nm]) ∧ Gr w w' := by
  go_enter Try.func19, Try.ntmps19
  go_wp2
  exact bodyPost_ret (v := _) (by simp [results, Try.results19, go_sem]) rfl ⟨rfl, (Gr.alloc _ _).trans (Gr.alloc _ _)⟩
theorem compare_f (n m : Int) (t u : ByteArray) (w : World) : Calls Try.prog 32 #[.agg #[.int .i64 n, .string t], .agg #[.int .i64 m, .string u]] w fun e w' => e = .returned (.int .i64 (kcmp (n, t) (m, u))) ∧ Gr w w' := compare_any (n, t) (m, u) w
theorem Gr.cell {w w' : World} (h : Gr w w') {p : Addr} {v : Value} (hc : w.cell? p = some v) : w'.cell? p = some v := cell_of_below h.below hc
set_option maxHeartbeats 8000000 in
theorem closure_any (W : World) (B : Nat) (a : Option Addr) (n c : Nat) (os : List Rx) (i j : Nat) (p q : Rx) (hB : W.cell? ⟨B, 0, none⟩ = some (.slice a n c)) (hL : Cel W a 8 (os.map Rx.row)) (hn : os.length = n) (hs : n ≤ 4194304) (hi : os[i]? = some p) (hj : os[j]? = some q) :
    Calls Try.prog 31 #[.int .i64 i, .int .i64 j, .pointer (some ⟨B, 0, none⟩)] W fun e w' => e = .returned (.int .i64 (kcmp p.key q.key)) ∧ Gr W w' := by
  have il : i < n := by have := (List.getElem?_eq_some_iff.1 hi).1; omega
  have jl : j < n := by have := (List.getElem?_eq_some_iff.1 hj).1; omega
  have i0 : (0 : Int) ≤ i := by omega
  have j0 : (0 : Int) ≤ j := by omega
  have il' : (i : Int) < n := by omega
  have jl' : (j : Int) < n := by omega
  obtain ⟨g, off, rfl, c0, c1, c2, c3, c4, c5, c6, c7⟩ := hL.cells hi
  obtain ⟨g', off', e, d0, d1, d2, d3, d4, d5, d6, d7⟩ := hL.cells hj
  cases e
  clear hi hj hL hn
  obtain ⟨⟨kd, nm, eps, tgs, host, rus, route, del⟩, ea, ec, ta, tc, ra, rc⟩ := p
  obtain ⟨⟨kd', nm', eps', tgs', host', rus', route', del'⟩, ea', ec', ta', tc', ra', rc'⟩ := q
  unfold Rs.key
  dsimp only at c0 c1 c2 c3 c4 c5 c6 c7 d0 d1 d2 d3 d4 d5 d6 d7 ⊢
  generalize eps.length = n1 at *
  generalize tgs.length = n2 at *
  generalize rus.length = n3 at *
  generalize eps'.length = n1' at *
  generalize tgs'.length = n2' at *
  generalize rus'.length = n3' at *
  have HS := hideL (fun (W' : World) (h : Gr W W') => show (_ ∧ _ ∧ _ ∧ _ ∧ _ ∧ _ ∧ _ ∧ _ ∧ _ ∧ _ ∧ _ ∧ _ ∧ _ ∧ _ ∧ _ ∧ _ ∧ _) from ⟨h.cell hB, h.cell c0, h.cell c1, h.cell c2, h.cell c3, h.cell c4, h.cell c5, h.cell c6, h.cell c7, h.cell d0, h.cell d1, h.cell d2, h.cell d3, h.cell d4, h.cell d5, h.cell d6, h.cell d7⟩)
  go_enter Try.func31, Try.ntmps31
  go_wp2_with fail
  go_region_held3 (fun w' => w'.cell? ⟨B, 0, none⟩ = some (.slice (some ⟨g, off, none⟩) n c) ∧ w'.cell? ⟨g, off + i * 8, none⟩ = some (.int .i64 kd) ∧ w'.cell? ⟨g, off + i * 8 + 1, none⟩ = some (.string nm) ∧ w'.cell? ⟨g, off + i * 8 + 2, none⟩ = some (.slice ea n1 ec) ∧ w'.cell? ⟨g, off + i * 8 + 3, none⟩ = some (.slice ta n2 tc) ∧ w'.cell? ⟨g, off + i * 8 + 4, none⟩ = some (.string host) ∧ w'.cell? ⟨g, off + i * 8 + 5, none⟩ = some (.slice ra n3 rc) ∧ w'.cell? ⟨g, off + i * 8 + 6, none⟩ = some (.string route) ∧ w'.cell? ⟨g, off + i * 8 + 7, none⟩ = some (.bool del)
     ∧ w'.cell? ⟨g, off + j * 8, none⟩ = some (.int .i64 kd') ∧ w'.cell? ⟨g, off + j * 8 + 1, none⟩ = some (.string nm') ∧ w'.cell? ⟨g, off + j * 8 + 2, none⟩ = some (.slice ea' n1' ec') ∧ w'.cell? ⟨g, off + j * 8 + 3, none⟩ = some (.slice ta' n2' tc') ∧ w'.cell? ⟨g, off + j * 8 + 4, none⟩ = some (.string host') ∧ w'.cell? ⟨g, off + j * 8 + 5, none⟩ = some (.slice ra' n3' rc') ∧ w'.cell? ⟨g, off + j * 8 + 6, none⟩ = some (.string route') ∧ w'.cell? ⟨g, off + j * 8 + 7, none⟩ = some (.bool del')) (go_keep) (first
      | (go_at_call 19; refine (keyOf_f _ _ _ _ _ _ _ _ _ _ _ _ _ _ _).mono ?_; rintro e w2 ⟨rfl, hg2⟩; have HG2 := hideL (HG1.out.trans hg2); obtain ⟨p0, p1, p2, p3, p4, p5, p6, p7, p8, p9, p10, p11, p12, p13, p14, p15, p16⟩ := HS.out w2 HG2.out; clear hg2)
      | (go_at_call 19; refine (keyOf_f _ _ _ _ _ _ _ _ _ _ _ _ _ _ _).mono ?_; rintro e w1 ⟨rfl, hg1⟩; have HG1 := hideL ((Gr.drewN W 1).trans hg1); obtain ⟨p0, p1, p2, p3, p4, p5, p6, p7, p8, p9, p10, p11, p12, p13, p14, p15, p16⟩ := HS.out w1 HG1.out; clear hg1)
      | (go_at_call 32; refine (compare_f _ _ _ _ _).mono ?_; rintro e w3 ⟨rfl, hg3⟩; have HG3 := hideL (HG2.out.trans hg3); obtain ⟨p0, p1, p2, p3, p4, p5, p6, p7, p8, p9, p10, p11, p12, p13, p14, p15, p16⟩ := HS.out w3 HG3.out; clear hg3))
  all_goals
    go_wp2
    go_ret
    exact ⟨rfl, HG3.out⟩
end Go.Proofs.Ytmljljpldljpjab
