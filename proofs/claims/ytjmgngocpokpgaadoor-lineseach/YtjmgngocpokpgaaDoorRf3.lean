/-
  The document's own reader: quoted texts, single quotes.
-/
import Derived.Test.YtjmgngocpokpgaaDoorRf2
namespace Go.Proofs.YtjmgngocpokpgaaDoor
open Go.RowKit
set_option linter.unusedVariables false
set_option linter.unusedSimpArgs false
set_option maxRecDepth 100000 in
set_option maxHeartbeats 8000000 in
theorem single_ref (l : List UInt8) (p : Nat) (w : World) (hs : l.length ≤ 2 ^ 40) (hp : p < l.length) :
    Calls Tryd.prog 72 #[.string ⟨l.toArray⟩, .int .i64 ((p + 1 : Nat) : Int)] w fun e w' => e = refE p (unqS (l.drop p) (l.drop p).length 1 []) ∧ Below w.heap.size w w' := by
  obtain ⟨i5, hi5, hz50, hz51, hz52⟩ := info_parts Tryd.info5
  obtain ⟨R, hR⟩ : ∃ R, unqS (l.drop p) (l.drop p).length 1 [] = R := ⟨_, rfl⟩
  rw [hR]
  have hdl : (l.drop p).length = l.length - p := by simp
  have HR := hide2 hR
  have HDL := hide2 hdl
  clear hR hdl
  obtain ⟨P1, hP1⟩ : ∃ P1, p + 1 = P1 := ⟨_, rfl⟩
  rw [hP1]
  go_enter Tryd.func72, Tryd.ntmps72
  go_wp2
  go_loopw [1, 6] (fun t v wr => ∃ (n k j a : Nat) (acc : List UInt8), j = p + k ∧ t = .int .i64 j ∧ R = unqS (l.drop p) n k acc ∧ l.length < n + j ∧ acc.length = a ∧ a < k ∧ j ≤ l.length ∧ wr.ownsRow w.heap.size 5 1 v a (vals (zL acc)) ∧ Below w.heap.size w wr) (fun t _ _ => l.length + 4 - (intOf t).toNat)
  case atStart => exact ⟨(l.drop p).length, 1, P1, 0, [], hP1.symm, rfl, HR.out.symm, by have := HDL.out; omega, rfl, by omega, by omega, World.ownsRow_nil _ _ _ _, Below.refl _ _⟩
  case round =>
    obtain ⟨n, k, j, a, acc, hjk, rfl, he, hn, hal, hak, hj, hown, hbel⟩ := hrel
    have HE := hide2 he
    have HO := hide2 hown
    have HB := hide2 hbel
    have HA := hide2 hal
    have HJK := hide2 hjk
    have hak2 : a < j := by omega
    have hn1 : 0 < n := by omega
    clear he hown hbel hal hjk
    have j0 : (0 : Int) ≤ j := by omega
    have hdk : (l.drop p)[k]? = l[j]? := by rw [List.getElem?_drop, HJK.out]
    have hdd : (l.drop p).drop k = l.drop j := by rw [List.drop_drop, HJK.out]
    have HDK := hide2 hdk
    have HDD := hide2 hdd
    clear hdk hdd
    obtain ⟨n, rfl⟩ : ∃ n', n = n' + 1 := ⟨n - 1, by omega⟩
    rcases ij : l[j]? with _ | c
    · have hl := len_none ij
      have hl' : ¬ (j : Int) < l.length := by omega
      have HX : Hid (unqS (l.drop p) (n + 1) k acc = none) := by show _ = _; rw [unqS, HDK.out, ij]
      go_wp2
      refine bodyPost_ret (v := .tuple #[.string ⟨#[]⟩, .int .i64 (-1)]) (by simp [results, Tryd.results72, go_sem]) rfl ?_
      exact ⟨by rw [HE.out, HX.out]; rfl, HB.out⟩
    · have ej := ix_eq ij
      have hjl := ix_lt ij
      have hl' : (j : Int) < l.length := by omega
      have lo := u8_lo c
      have hi := u8_hi c
      by_cases h1 : (c.toNat : Int) = 39
      · have c39 : c = 39 := UInt8.toNat_inj.1 (by show c.toNat = 39; omega)
        have HX : Hid (unqS (l.drop p) (n + 1) k acc = if Lib.hasPrefix (l.drop j) [39, 39] = true then unqS (l.drop p) n (k + 2) (acc ++ [39]) else some (acc, k + 1)) := by show _ = _; rw [unqS, HDK.out, ij]; dsimp only; rw [if_pos h1, HDD.out]
        have hcv := str_row wr w.heap.size a _ acc HA.out HO.out
        rcases ij1 : l[j + 1]? with _ | e
        · have hl3 := len_none ij1
          have hl4 : ¬ (j : Int) + 1 < l.length := by omega
          have hpf : Lib.hasPrefix (l.drop j) [39, 39] = false := by
            rw [drop_cons ij, List.drop_eq_nil_of_le (by omega)]
            simp [Lib.hasPrefix, List.isPrefixOf]
          rw [hpf, if_neg (by simp)] at HX
          go_wp2
          refine bodyPost_ret (v := .tuple #[.string ⟨acc.toArray⟩, .int .i64 (j + 1)]) (by simp [results, Tryd.results72, go_sem]) rfl ?_
          exact ⟨by rw [HE.out, HX.out]; simp [refE, HJK.out]; omega, HB.out⟩
        · have ej1 := ix_eq ij1
          have hj1 := ix_lt ij1
          have hl4 : (j : Int) + 1 < l.length := by omega
          have hl5 : ((j : Int) + 1).toNat = j + 1 := by omega
          have elo := u8_lo e
          have ehi := u8_hi e
          have hpf : Lib.hasPrefix (l.drop j) [39, 39] = (39 == e) := by
            rw [drop_cons ij, drop_cons ij1, c39]
            simp [Lib.hasPrefix, List.isPrefixOf]
          by_cases h2 : (e.toNat : Int) = 39
          · have e39 : e = 39 := UInt8.toNat_inj.1 (by show e.toNat = 39; omega)
            rw [hpf, e39, if_pos (by decide)] at HX
            clear hcv
            go_wp2_with (at_builtin; refine wpList_append_form _ rfl (.tmp 27) (.tmp 28) 22 rfl w.heap.size 5 i5 (.int .u8 0) 1 1 Tryd.underlying22 hi5 hz50 hz51 hz52 rfl (by decide) _ a (vals (zL acc)) rfl (HO.out.alloc _) ⟨wr.heap.size, 0, none⟩ 1 1 (vals [39]) rfl rfl (World.news_of_block (heap_alloc_new wr _)) (vals_one _) (by omega) (by unfold maxLen; omega) (by omega) (by have := HB.out.size; simp; omega) ?_; intro g3 c3 w3 hown3 hgrow3; obtain ⟨O3, B3⟩ := app_more (new := [39]) rfl HA.out rfl HO.out HB.out (Nat.le_refl _) hown3 hgrow3; clear hown3 hgrow3)
            go_roundw
            case rel => exact ⟨n, k + 2, j + 2, a + 1, acc ++ [39], by have := HJK.out; omega, by go_num, by rw [HE.out, HX.out], by omega, by simp [HA.out], by omega, by omega, O3.out, B3.out⟩
            case measure => simp [intOf]; omega
          · have e39 : ¬ e = 39 := fun h => h2 (by rw [h]; rfl)
            rw [hpf, if_neg (by simp; exact fun h => e39 h.symm)] at HX
            go_wp2
            refine bodyPost_ret (v := .tuple #[.string ⟨acc.toArray⟩, .int .i64 (j + 1)]) (by simp [results, Tryd.results72, go_sem]) rfl ?_
            exact ⟨by rw [HE.out, HX.out]; simp [refE, HJK.out]; omega, HB.out⟩
      · have HX : Hid (unqS (l.drop p) (n + 1) k acc = unqS (l.drop p) n (k + 1) (acc ++ [c])) := by show _ = _; rw [unqS, HDK.out, ij]; simp [h1]
        go_wp2_with (at_builtin; refine wpList_append_form _ rfl (.tmp 36) (.tmp 40) 22 rfl w.heap.size 5 i5 (.int .u8 0) 1 1 Tryd.underlying22 hi5 hz50 hz51 hz52 rfl (by decide) _ a (vals (zL acc)) rfl (HO.out.alloc _) ⟨wr.heap.size, 0, none⟩ 1 1 (vals [(c.toNat : Int)]) rfl rfl (World.news_of_block (heap_alloc_new wr _)) (vals_one _) (by omega) (by unfold maxLen; omega) (by omega) (by have := HB.out.size; simp; omega) ?_; intro g3 c3 w3 hown3 hgrow3; obtain ⟨O3, B3⟩ := app_more (new := [c]) rfl HA.out rfl HO.out HB.out (Nat.le_refl _) hown3 hgrow3; clear hown3 hgrow3)
        go_roundw
        case rel => exact ⟨n, k + 1, j + 1, a + 1, acc ++ [c], by have := HJK.out; omega, by go_num, by rw [HE.out, HX.out], by omega, by simp [HA.out], by omega, by omega, O3.out, B3.out⟩
        case measure => simp [intOf]; omega
theorem quoted_ref (l : List UInt8) (p : Nat) (c : UInt8) (r : List UInt8) (w : World) (hs : l.length ≤ 2 ^ 40) (hd : l.drop p = c :: r) :
    Calls Tryd.prog 53 #[.string ⟨l.toArray⟩, .int .i64 p] w fun e w' => e = refE p (unqF (l.drop p)) ∧ Below w.heap.size w w' := by
  have hp : p < l.length := by
    have := congrArg List.length hd
    rw [List.length_drop] at this
    simp at this
    omega
  have ip : l[p]? = some c := by
    have : (l.drop p)[0]? = some c := by rw [hd]; rfl
    rwa [List.getElem?_drop, Nat.add_zero] at this
  have ej := ix_eq ip
  have p0 : (0 : Int) ≤ p := by omega
  have hpl : (p : Int) < l.length := by omega
  have dr := double_ref l p w hs hp
  have sr := single_ref l p w hs hp
  have cb : ((p + 1 : Nat) : Int) = (p : Int) + 1 := by omega
  rw [cb] at dr sr
  have hu : unqF (l.drop p) = if (c.toNat : Int) = 34 then unqD (l.drop p) (l.drop p).length 1 [] else unqS (l.drop p) (l.drop p).length 1 [] := by rw [hd]; rfl
  rw [hu]
  clear hu hd
  by_cases h1 : (c.toNat : Int) = 34
  · rw [if_pos h1]
    generalize unqD (l.drop p) (l.drop p).length 1 [] = R at dr
    go_enter Tryd.func53, Tryd.ntmps53
    rcases R with _ | ⟨t, m⟩
    · go_wp2_with (go_at_call 71; refine dr.mono ?_; rintro e w' ⟨rfl, hb⟩; dsimp only [refE])
      refine bodyPost_ret (v := .tuple #[.string ⟨#[]⟩, .int .i64 (-1)]) (by simp [results, Tryd.results53, go_sem]) rfl ⟨rfl, hb⟩
    · go_wp2_with (go_at_call 71; refine dr.mono ?_; rintro e w' ⟨rfl, hb⟩; dsimp only [refE])
      refine bodyPost_ret (v := .tuple #[.string ⟨t.toArray⟩, .int .i64 ((p + m : Nat) : Int)]) (by simp [results, Tryd.results53, go_sem]) rfl ⟨rfl, hb⟩
  · rw [if_neg h1]
    generalize unqS (l.drop p) (l.drop p).length 1 [] = R at sr
    go_enter Tryd.func53, Tryd.ntmps53
    rcases R with _ | ⟨t, m⟩
    · go_wp2_with (go_at_call 72; refine sr.mono ?_; rintro e w' ⟨rfl, hb⟩; dsimp only [refE])
      refine bodyPost_ret (v := .tuple #[.string ⟨#[]⟩, .int .i64 (-1)]) (by simp [results, Tryd.results53, go_sem]) rfl ⟨rfl, hb⟩
    · go_wp2_with (go_at_call 72; refine sr.mono ?_; rintro e w' ⟨rfl, hb⟩; dsimp only [refE])
      refine bodyPost_ret (v := .tuple #[.string ⟨t.toArray⟩, .int .i64 ((p + m : Nat) : Int)]) (by simp [results, Tryd.results53, go_sem]) rfl ⟨rfl, hb⟩
end Go.Proofs.YtjmgngocpokpgaaDoor
