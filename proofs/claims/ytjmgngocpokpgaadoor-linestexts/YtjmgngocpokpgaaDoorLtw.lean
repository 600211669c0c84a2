/-
  The document's Plain, and LinesTexts.
-/
import Derived.Test.YtjmgngocpokpgaaDoorLtm
import Derived.Test.YtjmgngocpokpgaaDoorLin
import Derived.Test.YtjmgngocpokpgaaDoorRqt
import Derived.Test.YtjmgngocpokpgaaDoorOw
namespace Go.Proofs.YtjmgngocpokpgaaDoor
open Go.RowKit
set_option linter.unusedVariables false
set_option linter.unusedSimpArgs false
theorem not_plB {l : List UInt8} (h : ¬ refP l) : plB l = false := by
  cases hp : plB l with
  | false => rfl
  | true => exact absurd ((refP_iff l).2 hp) h
theorem row_cells {w : World} {B g N c : Nat} {t : Tk} {ts : List Tk} (h : w.ownsRow B 40 5 (.slice (some ⟨g, 0, none⟩) N c) N ((t :: ts).flatMap Tk.row)) : w.cell? ⟨g, 0, none⟩ = some (.int .i64 t.kind) ∧ w.cell? ⟨g, 3, none⟩ = some (.string ⟨t.text.toArray⟩) ∧ w.cell? ⟨g, 4, none⟩ = some (.bool t.q) :=
  ⟨h.cells rfl 0 _ rfl, h.cells rfl 3 _ rfl, h.cells rfl 4 _ rfl⟩
set_option maxRecDepth 100000 in
set_option maxHeartbeats 4000000 in
theorem rplain_ref (l : List UInt8) (w : World) (hs : l.length ≤ 2 ^ 30) :
    Calls Tryd.prog 18 #[.string ⟨l.toArray⟩] w fun e w' => e = .returned (.bool (plB l)) ∧ Below w.heap.size w w' := by
  obtain ⟨pb, hpb⟩ : ∃ b, plB l = b := ⟨_, rfl⟩
  rw [hpb]
  have HPB := hide2 hpb
  clear hpb
  go_enter Tryd.func18, Tryd.ntmps18
  go_wp2
  go_loopw [3] (fun t wr => ∃ k : Nat, t = .int .i64 k ∧ k ≤ l.length ∧ wr = w) (fun t _ => l.length - (intOf t).toNat)
  case atStart => exact ⟨0, rfl, by omega, rfl⟩
  case round =>
    obtain ⟨k, rfl, hkl, rfl⟩ := hrel
    have k0 : (0 : Int) ≤ k := by omega
    rcases ik : l[k]? with _ | c
    · have kl := len_none ik
      have kl' : ¬ (k : Int) < l.length := by omega
      have lr := line_ref l 1 wr hs
      obtain ⟨⟨ts, er⟩, hR⟩ : ∃ R, readF l 1 = R := ⟨_, rfl⟩
      rw [hR] at lr
      have HR := hide2 hR
      clear hR
      by_cases her : er = 0
      · subst her
        rcases ts with _ | ⟨t, ts⟩
        · have HN : Hid (pb = false) := by
            show _ = _
            rw [← HPB.out]
            apply not_plB
            rintro ⟨t, h, _⟩
            rw [HR.out] at h
            simp at h
          go_wp2_with (go_at_call 23; refine lr.mono ?_; rintro e w2 ⟨v, rfl, hr, hb⟩; obtain ⟨av, cv, rfl, hav⟩ := own_sh hr; have HB2 := hide2 hb; clear hb hr hav; simp only [List.length_nil])
          go_ret
          exact ⟨ret_bool HN.out.symm, HB2.out⟩
        · rcases ts with _ | ⟨t2, ts⟩
          · rcases t with ⟨kd, ln, cl, tx, q⟩
            by_cases hkd : kd = 4
            · subst hkd
              rcases q with _ | _
              · by_cases htx : tx = l
                · subst htx
                  have HN : Hid (pb = true) := by
                    show _ = _
                    rw [← HPB.out]
                    exact (refP_iff tx).1 ⟨_, HR.out, rfl, rfl, rfl⟩
                  go_wp2_with (go_at_call 23; refine lr.mono ?_; rintro e w2 ⟨v, rfl, hr, hb⟩; obtain ⟨av, cv, rfl, hav⟩ := own_sh hr; obtain ⟨g, rfl⟩ := hav (by simp); obtain ⟨d0, d3, d4⟩ := row_cells hr; have HB2 := hide2 hb; clear hb hr hav; simp only [List.length_cons, List.length_nil])
                  go_ret
                  exact ⟨ret_bool HN.out.symm, HB2.out⟩
                · have HN : Hid (pb = false) := by
                    show _ = _
                    rw [← HPB.out]
                    apply not_plB
                    rintro ⟨t, h, h1, h2, h3⟩
                    rw [HR.out] at h
                    simp at h
                    exact htx (by rw [← h3, ← h])
                  have htx1 : ¬ (ByteArray.mk tx.toArray) = ⟨l.toArray⟩ := fun e => htx (by have := congrArg (fun b => b.data.toList) e; simpa using this)
                  have htx2 : (tx == l) = false := by rw [beq_eq_false_iff_ne]; exact htx
                  go_wp2_with (go_at_call 23; refine lr.mono ?_; rintro e w2 ⟨v, rfl, hr, hb⟩; obtain ⟨av, cv, rfl, hav⟩ := own_sh hr; obtain ⟨g, rfl⟩ := hav (by simp); obtain ⟨d0, d3, d4⟩ := row_cells hr; have HB2 := hide2 hb; clear hb hr hav; simp only [List.length_cons, List.length_nil])
                  go_ret
                  exact ⟨ret_bool HN.out.symm, HB2.out⟩
              · have HN : Hid (pb = false) := by
                  show _ = _
                  rw [← HPB.out]
                  apply not_plB
                  rintro ⟨t, h, h1, h2, h3⟩
                  rw [HR.out] at h
                  simp at h
                  rw [← h] at h2
                  exact absurd h2 (by dsimp only; decide)
                go_wp2_with (go_at_call 23; refine lr.mono ?_; rintro e w2 ⟨v, rfl, hr, hb⟩; obtain ⟨av, cv, rfl, hav⟩ := own_sh hr; obtain ⟨g, rfl⟩ := hav (by simp); obtain ⟨d0, d3, d4⟩ := row_cells hr; have HB2 := hide2 hb; clear hb hr hav; simp only [List.length_cons, List.length_nil])
                go_ret
                exact ⟨ret_bool HN.out.symm, HB2.out⟩
            · have HN : Hid (pb = false) := by
                show _ = _
                rw [← HPB.out]
                apply not_plB
                rintro ⟨t, h, h1, h2, h3⟩
                rw [HR.out] at h
                simp at h
                rw [← h] at h1
                exact hkd h1
              have hkdb : (kd == 4) = false := by rw [beq_eq_false_iff_ne]; exact hkd
              go_wp2_with (go_at_call 23; refine lr.mono ?_; rintro e w2 ⟨v, rfl, hr, hb⟩; obtain ⟨av, cv, rfl, hav⟩ := own_sh hr; obtain ⟨g, rfl⟩ := hav (by simp); obtain ⟨d0, d3, d4⟩ := row_cells hr; have HB2 := hide2 hb; clear hb hr hav; simp only [List.length_cons, List.length_nil])
              go_ret
              exact ⟨ret_bool HN.out.symm, HB2.out⟩
          · have HN : Hid (pb = false) := by
              show _ = _
              rw [← HPB.out]
              apply not_plB
              rintro ⟨t, h, _⟩
              rw [HR.out] at h
              simp at h
            obtain ⟨N, hN⟩ : ∃ N, (t :: t2 :: ts).length = N := ⟨_, rfl⟩
            have hN2 : 2 ≤ N := by rw [← hN]; simp
            have hN3 : ((N : Int) == 1) = false := by rw [beq_eq_false_iff_ne]; omega
            go_wp2_with (go_at_call 23; refine lr.mono ?_; rintro e w2 ⟨v, rfl, hr, hb⟩; dsimp only at hr; rw [hN] at hr; obtain ⟨av, cv, rfl, hav⟩ := own_sh hr; have HB2 := hide2 hb; clear hb hr hav hN)
            go_ret
            exact ⟨ret_bool HN.out.symm, HB2.out⟩
      · have HN : Hid (pb = false) := by
          show _ = _
          rw [← HPB.out]
          apply not_plB
          rintro ⟨t, h, _⟩
          rw [HR.out] at h
          simp at h
          exact her h.2
        have herb : (er == 0) = false := by rw [beq_eq_false_iff_ne]; exact her
        go_wp2_with (go_at_call 23; refine lr.mono ?_; rintro e w2 ⟨v, rfl, hr, hb⟩; obtain ⟨av, cv, rfl, hav⟩ := own_sh hr; have HB2 := hide2 hb; clear hb hr hav)
        go_ret
        exact ⟨ret_bool HN.out.symm, HB2.out⟩
    · have ek := ix_eq ik
      have kl := ix_lt ik
      have kl' : (k : Int) < l.length := by omega
      by_cases hc : (c.toNat : Int) = 10
      · have hc' : c = 10 := UInt8.toNat_inj.1 (by show c.toNat = 10; omega)
        have HN : Hid (pb = false) := by
          show _ = _
          rw [← HPB.out]
          cases hp : plB l with
          | false => rfl
          | true => exact absurd (List.mem_of_getElem? (hc' ▸ ik)) (str_no10 (of_decide_eq_true hp).2.1)
        go_wp2
        go_ret
        exact ⟨ret_bool HN.out.symm, Below.refl _ _⟩
      · go_wp2_with fail
        go_roundw
        case rel => exact ⟨k + 1, by go_num, by omega, trivial⟩
        case measure => simp [intOf]; omega
theorem texts_any (l : List UInt8) (m : Int) (w : World) (hs : l.length ≤ 2 ^ 30) (hm : w.cell? ⟨0, 0, none⟩ = some (.int .i64 m)) :
    Calls Tryd.prog 5 #[.string ⟨l.toArray⟩] w fun e w' => e = .returned (.bool true) ∧ Below w.heap.size w w' := by
  have c17 := plain17 l m w hs hm
  have c18 := fun W => rplain_ref l W hs
  have c19 := fun W => quote_any l W hs
  have c20 := fun W => rquote_any l W hs
  obtain ⟨Q, hQ⟩ : ∃ Q, qtL l = Q := ⟨_, rfl⟩
  rw [hQ] at c19 c20
  clear hQ
  cases hb : plB l
  all_goals rw [hb] at c17 c18
  all_goals clear hb
  all_goals go_enter Tryd.func5, Tryd.ntmps5
  all_goals go_wp2_with first
    | (go_at_call 17; refine c17.mono ?_; rintro e w1 ⟨rfl, q, hq⟩; have b1 : Below w.heap.size w w1 := hq ▸ below_drewN (Below.refl _ w) q; have HB1 := hide2 b1; clear hq b1)
    | (go_at_call 18; refine (c18 _).mono ?_; rintro e w2 ⟨rfl, b2⟩; have HB2 := hide2 (HB1.out.trans (b2.mono HB1.out.size)); clear b2)
    | (go_at_call 19; refine (c19 _).mono ?_; rintro e w3 ⟨rfl, b3⟩; have HB3 := hide2 (HB2.out.trans (b3.mono HB2.out.size)); clear b3)
    | (go_at_call 20; refine (c20 _).mono ?_; rintro e w4 ⟨rfl, b4⟩; have HB4 := hide2 (HB3.out.trans (b4.mono HB3.out.size)); clear b4)
  all_goals go_ret
  all_goals exact ⟨rfl, HB4.out⟩
theorem texts_str (s : ByteArray) (W : World) (hm : HasM W) (hs : s.size ≤ 1048576) : Calls Tryd.prog 5 #[.string s] W fun e w' => e = .returned (.bool true) ∧ Below W.heap.size W w' := by
  obtain ⟨m, hm⟩ := hm
  obtain ⟨⟨l⟩⟩ := s
  exact texts_any l m W (by have : l.length ≤ 1048576 := hs; omega) hm
end Go.Proofs.YtjmgngocpokpgaaDoor
