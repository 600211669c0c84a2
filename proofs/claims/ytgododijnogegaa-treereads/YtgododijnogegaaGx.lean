/-
  A grower takes a value.
-/
import Derived.Test.YtgododijnogegaaGb
import Derived.Test.YtgododijnogegaaGv
import Derived.Test.YtgododijnogegaaPb
namespace Go.Proofs.Ytgododijnogegaa
open Go.RowKit
set_option linter.unusedVariables false
set_option linter.unusedSimpArgs false
set_option maxRecDepth 100000
/-- what a grower's block, or value, comes to -/
structure GwO (w w' : World) (base gp : Nat) (doc : Int) (g off n cap : Nat) (L : List Tk) (v : Value) (os : List Nx) (fl : List Nd) (q' : Nat) (v' : Value) (ns : List Nx) : Prop where
  gs : Gs w' base gp doc g off n cap L q' v' (os ++ ns)
  nds : ns.map Nx.nd = fl
  tg : Tg w w' gp v
  row : v'.ownBlock = v.ownBlock ∨ ∀ r, v'.ownBlock = some r → w.heap.size ≤ r
  new : ∀ o ∈ ns, ∀ r, o.kv.ownBlock = some r → w.heap.size ≤ r
def GwE (w : World) (base gp : Nat) (doc : Int) (g off n cap : Nat) (L : List Tk) (v : Value) (os : List Nx) (key : ByteArray) (r : Rr) (e : Ending) (w' : World) : Prop := match r with
  | .ok t q' made' => e = .returned (.tuple #[]) ∧ made' = os.length + t.size ∧ ∃ v' ns, GwO w w' base gp doc g off n cap L v os ((t.withKey key).flat os.length) q' v' ns
  | .bad l er _ _ => e = wrongE doc l er ∧ Tg w w' gp v
/-- the block's contract at a depth -/
def BlkC (base gp : Nat) (doc : Int) (g off n cap : Nat) (L : List Tk) (f : Nat) (d : Int) : Prop := ∀ (w : World) (q : Nat) (v : Value) (os : List Nx) (key : ByteArray), Gs w base gp doc g off n cap L q v os → key.size ≤ 281474976710656 → (∃ t, L[q]? = some t ∧ 2 ≤ t.kd ∧ t.kd ≤ 4) →
  Calls Try.prog 36 #[.pointer (some ⟨gp, 0, none⟩), .string key, .int .i64 d] w (GwE w base gp doc g off n cap L v os key (blkM L f q os.length))
theorem GwO.of_below {w w1 w' : World} {base gp : Nat} {doc : Int} {g off n cap : Nat} {L : List Tk} {v : Value} {os : List Nx} {fl : List Nd} {q' : Nat} {v' : Value} {ns : List Nx} (hb : Below w.heap.size w w1) (h : GwO w1 w' base gp doc g off n cap L v os fl q' v' ns) : GwO w w' base gp doc g off n cap L v os fl q' v' ns :=
  ⟨h.gs, h.nds, (Tg.of_below gp v hb).trans h.tg (.inl rfl), by
    rcases h.row with e | e
    · exact .inl e
    · exact .inr fun r hr => Nat.le_trans hb.size (e r hr), fun o ho r hr => Nat.le_trans hb.size (h.new o ho r hr)⟩
theorem GwE.of_below {w w1 : World} {base gp : Nat} {doc : Int} {g off n cap : Nat} {L : List Tk} {v : Value} {os : List Nx} {key : ByteArray} {r : Rr} {e : Ending} {w' : World} (hb : Below w.heap.size w w1) (h : GwE w1 base gp doc g off n cap L v os key r e w') : GwE w base gp doc g off n cap L v os key r e w' := by
  cases r with
  | ok t q' made' =>
    obtain ⟨h1, h2, v', ns, h3⟩ := h
    exact ⟨h1, h2, v', ns, h3.of_below hb⟩
  | bad l er _ _ => exact ⟨h.1, (Tg.of_below gp v hb).trans h.2 (.inl rfl)⟩
/-- a node without kids, begun -/
theorem GwE.leaf {w w' : World} {base gp : Nat} {doc : Int} {g off n cap : Nat} {L : List Tk} {q' : Nat} {v v' : Value} {os : List Nx} {key tx : ByteArray} {quo : Bool} {ln : Int} (hgs : Gs w' base gp doc g off n cap L q' v' (os ++ [bareN 1 key tx quo ln])) (htg : Tg w w' gp v) (hrow : v'.ownBlock = v.ownBlock ∨ ∀ r, v'.ownBlock = some r → w.heap.size ≤ r) :
    GwE w base gp doc g off n cap L v os key (.ok (.node 1 ByteArray.empty tx quo ln []) q' (os.length + 1)) (.returned (.tuple #[])) w' := by
  refine ⟨rfl, by simp [Tr.size, sizes], v', [bareN 1 key tx quo ln], hgs, ?_, htg, hrow, ?_⟩
  · simp [Tr.withKey, Tr.flat, flats, starts, bareN, Nx.nd]
  · intro o ho r hr
    simp at ho
    subst ho
    simp [bareN] at hr
    cases hr
theorem cell_bel {w w1 : World} {m : Nat} {o : Obj} {a : Addr} {u : Value} (hb : Below ((w.alloc o).drewN m).heap.size ((w.alloc o).drewN m) w1) (h : (w.alloc o).cell? a = some u) : w1.cell? a = some u := by
  rw [← h]
  exact World.cell?_of_block (w := w.alloc o) (a := a) (hb.block a.block (World.block_lt_of_cell? (w.alloc o) a h))
theorem new_cell1 {w W w1 : World} {A : Array Value} {m : Nat} (hW : W = (w.alloc (.cells A 39)).drewN m) (hb : Below W.heap.size W w1) : (∀ (j : Nat) (u : Value), A[j]? = some u → w1.cell? ⟨w.heap.size, j, none⟩ = some u) ∧ True := by
  subst hW
  have h0 : (w.alloc (.cells A 39)).heap[w.heap.size]? = some (.cells A 39 (0, 0)) := Go.heap_alloc_new _ _
  refine ⟨fun j u hu => ?_, trivial⟩
  rw [cell_block ((hb.block _ (Array.getElem?_eq_some_iff.1 h0).1).trans h0)]; exact hu
set_option maxHeartbeats 4000000 in
theorem gvalue_leaf (w : World) (base gp : Nat) (doc : Int) (g off n cap : Nat) (L : List Tk) (q : Nat) (v : Value) (os : List Nx) (u : Tk) (key : ByteArray) (d : Int) (f : Nat) (hdf : d + (f : Int) = 17) (h : Gs w base gp doc g off n cap L q v os) (hu : u.kd = 2 ∨ u.kd = 3) (hks : key.size ≤ 281474976710656) (hB : nxtV L u q = false) :
    Calls Try.prog 53 #[.pointer (some ⟨gp, 0, none⟩), tokV u, .string key, .int .i64 d] w (GwE w base gp doc g off n cap L v os key (valM (blkM L f) (decide (f = 0)) L u q os.length)) := by
  unfold valM
  rw [hB, if_neg (by decide)]
  obtain ⟨oq, hblk, hoq⟩ := h.blk
  have z1 : w.cell? ⟨gp, 1, none⟩ = some (.slice (some ⟨g, oq, none⟩) (n - q) (cap - q)) := by rw [cell_block hblk]; rfl
  have z1a := cell_al z1
  have HG := hideL h
  have HU := hideL hu
  obtain ⟨m, hm⟩ : ∃ m, n - q = m := ⟨_, rfl⟩
  obtain ⟨c, hc⟩ : ∃ c, cap - q = c := ⟨_, rfl⟩
  rw [hm, hc] at z1 z1a
  have HW : Hid (∀ W, Below w.heap.size w W → Calls Try.prog 44 #[.pointer (some ⟨gp, 0, none⟩), tokV u, nodV 1 key ⟨#[]⟩ false, .int .i64 d] W fun e w' => (∃ z, e = .returned (.int .i64 z) ∧ GwE w base gp doc g off n cap L v os key (if decide (f = 0) = true ∨ os.length = 4096 then .bad u.line 92 q os.length else .ok (leafT u.line) q (os.length + 1)) (.returned (.tuple #[])) w') ∨ (e = wrongE doc u.line 92 ∧ GwE w base gp doc g off n cap L v os key (if decide (f = 0) = true ∨ os.length = 4096 then .bad u.line 92 q os.length else .ok (leafT u.line) q (os.length + 1)) (wrongE doc u.line 92) w')) := by
    intro W hW
    by_cases hdead : decide (f = 0) = true ∨ os.length = 4096
    · rw [if_pos hdead]
      have hdd : 16 < d ∨ os.length = 4096 := by
        rcases hdead with e | e
        · have := of_decide_eq_true e
          left; omega
        · exact .inr e
      refine (begin_bad W base gp doc g off n cap L q v os u 1 key ⟨#[]⟩ false d (h.below hW) hdd).mono ?_
      rintro e w' ⟨rfl, hb⟩
      exact .inr ⟨rfl, rfl, (Tg.of_below gp v hW).trans (Tg.of_below gp v hb) (.inl rfl)⟩
    · rw [if_neg hdead]
      have h2 : ¬ f = 0 := fun e => hdead (.inl (decide_eq_true e))
      have h3 : ¬ os.length = 4096 := fun e => hdead (.inr e)
      refine (begin_ok W base gp doc g off n cap L q v os u 1 key ⟨#[]⟩ false d (h.below hW) (by omega) (by have := h.few; omega) hks (by decide)).mono ?_
      rintro e w' ⟨rfl, v', hg, ht, hr⟩
      exact .inl ⟨_, rfl, GwE.of_below hW (GwE.leaf hg ht hr)⟩
  generalize (if decide (f = 0) = true ∨ os.length = 4096 then Rr.bad u.line 92 q os.length else .ok (leafT u.line) q (os.length + 1)) = R at *
  have HNB : Hid (∀ t, L[q]? = some t → isVal u t = false) := fun t ht => by
    unfold nxtV at hB
    rw [ht] at hB
    exact hB
  have HIV := hideL (fun (t : Tk) (W : World) => isValue_any t u W hu)
  have HB1 : Hid (∀ A : Obj, Below w.heap.size w (w.alloc A)) := fun A => (Below.refl _ w).alloc (Nat.le_refl _) _
  obtain ⟨ukd, uline, ucol, utx, uquo⟩ := u
  unfold tokV nodV at *
  dsimp only at *
  rcases ht : L[q]? with _ | t
  · have hq : n ≤ q := by have := List.getElem?_eq_none_iff.1 ht; have := h.len; omega
    have hm0 : m = 0 := by omega
    subst hm0
    clear h hm hc hblk hoq ht hq hB hu z1
    go_enter Try.func53, Try.ntmps53
    go_wp2
    go_quiet (fail)
    go_wp2_with (fail)
    refine (HW.out _ (below_drewN (HB1.out _) _)).mono ?_
    rintro e w' (⟨z, rfl, hE⟩ | ⟨he, hE⟩)
    · have HE := hideL hE
      clear hE
      go_wp2_with (fail)
      go_end0
      exact HE.out
    · have HE := hideL hE
      clear hE
      unfold wrongE at he
      subst he
      exact ⟨rfl, HE.out⟩
  · have hq : q < n := by have := (List.getElem?_eq_some_iff.1 ht).1; have := h.len; omega
    obtain ⟨y0, y1, y2, y3, y4⟩ := h.tok ht
    rw [← hoq hq] at y0 y1 y2 y3 y4
    have i2 : (0 : Int) < (m : Int) := by omega
    have m1 : 1 ≤ m := by omega
    have hp0 : 0 < m := by omega
    have dm : decide (0 < m) = true := decide_eq_true (by omega)
    have hiv := HNB.out t ht
    have hI := HIV.out t
    rw [hiv] at hI
    obtain ⟨kd, line, col, tx, quo⟩ := t
    dsimp only at *
    have y0a := cell_al y0
    have y1a := cell_al y1
    have y2a := cell_al y2
    have y3a := cell_al y3
    have y4a := cell_al y4
    have HI := hideL hI
    have HST : Hid (∀ (A : Array Value) (m : Nat) (W : World), Below (w.alloc (.cells A 39)).heap.size ((w.alloc (.cells A 39)).drewN m) W → Below w.heap.size w W) := fun A m W hW => (below_drewN (HB1.out _) m).trans (hW.mono (HB1.out _).size)
    clear h hm hc hblk hoq ht hq hB hu z1 y0 y1 y2 y3 y4 hI hiv HIV HNB
    go_enter Try.func53, Try.ntmps53
    go_wp2
    go_region_held3 (fun w' => w'.cell? ⟨gp, 1, none⟩ = some (.slice (some ⟨g, oq, none⟩) m c) ∧ w'.cell? ⟨g, oq, none⟩ = some (.int .i64 kd) ∧ w'.cell? ⟨g, oq + 1, none⟩ = some (.int .i64 line) ∧ w'.cell? ⟨g, oq + 2, none⟩ = some (.int .i64 col) ∧ w'.cell? ⟨g, oq + 3, none⟩ = some (.string tx) ∧ w'.cell? ⟨g, oq + 4, none⟩ = some (.bool quo) ∧ w'.cell? ⟨w.heap.size, 0, none⟩ = some (.int .i64 ukd) ∧ w'.cell? ⟨w.heap.size, 1, none⟩ = some (.int .i64 uline) ∧ w'.cell? ⟨w.heap.size, 2, none⟩ = some (.int .i64 ucol) ∧ w'.cell? ⟨w.heap.size, 3, none⟩ = some (.string utx) ∧ w'.cell? ⟨w.heap.size, 4, none⟩ = some (.bool uquo)) (go_keep) (first | (go_at_call 55; refine (HI.out _).mono ?_; rintro e w1 ⟨rfl, hb1⟩; have HB1' := hideL (HST.out _ 1 w1 hb1); obtain ⟨na, -⟩ := new_cell1 (m := 1) rfl hb1; have c0 := na 0 _ rfl; have c1 := na 1 _ rfl; have c2 := na 2 _ rfl; have c3 := na 3 _ rfl; have c4 := na 4 _ rfl; have e0 := cell_bel hb1 (y0a _); have e1 := cell_bel hb1 (y1a _); have e2 := cell_bel hb1 (y2a _); have e3 := cell_bel hb1 (y3a _); have e4 := cell_bel hb1 (y4a _); have e5 := cell_bel hb1 (z1a _); clear hb1 na))
    go_wp2_with (fail)
    refine (HW.out _ HB1'.out).mono ?_
    rintro e w' (⟨z, rfl, hE⟩ | ⟨he, hE⟩)
    · have HE := hideL hE
      clear hE
      go_wp2_with (fail)
      go_end0
      exact HE.out
    · have HE := hideL hE
      clear hE
      unfold wrongE at he
      subst he
      exact ⟨rfl, HE.out⟩
set_option maxHeartbeats 4000000 in
theorem gvalue_block (w : World) (base gp : Nat) (doc : Int) (g off n cap : Nat) (L : List Tk) (q : Nat) (v : Value) (os : List Nx) (u : Tk) (key : ByteArray) (d : Int) (f : Nat) (h : Gs w base gp doc g off n cap L q v os) (hu : u.kd = 2 ∨ u.kd = 3) (hks : key.size ≤ 281474976710656) (hB : nxtV L u q = true) (hC : BlkC base gp doc g off n cap L f d) :
    Calls Try.prog 53 #[.pointer (some ⟨gp, 0, none⟩), tokV u, .string key, .int .i64 d] w (GwE w base gp doc g off n cap L v os key (valM (blkM L f) (decide (f = 0)) L u q os.length)) := by
  unfold valM
  rw [hB, if_pos rfl]
  obtain ⟨oq, hblk, hoq⟩ := h.blk
  have z1 : w.cell? ⟨gp, 1, none⟩ = some (.slice (some ⟨g, oq, none⟩) (n - q) (cap - q)) := by rw [cell_block hblk]; rfl
  have z1a := cell_al z1
  obtain ⟨m, hm⟩ : ∃ m, n - q = m := ⟨_, rfl⟩
  obtain ⟨c, hc⟩ : ∃ c, cap - q = c := ⟨_, rfl⟩
  rw [hm, hc] at z1 z1a
  rcases ht : L[q]? with _ | t
  · unfold nxtV at hB
    rw [ht] at hB
    cases hB
  have hiv : isVal u t = true := by
    unfold nxtV at hB
    rw [ht] at hB
    exact hB
  have hkd : 2 ≤ t.kd ∧ t.kd ≤ 4 := by
    unfold isVal at hiv
    rw [Bool.and_eq_true, decide_eq_true_eq] at hiv
    exact hiv.1
  have HW : Hid (∀ W, Below w.heap.size w W → Calls Try.prog 36 #[.pointer (some ⟨gp, 0, none⟩), .string key, .int .i64 d] W (GwE w base gp doc g off n cap L v os key (blkM L f q os.length))) := fun W hW => (hC W q v os key (h.below hW) hks ⟨t, ht, hkd⟩).mono fun e w' hE => GwE.of_below hW hE
  have HIV := hideL (fun (W : World) => isValue_any t u W hu)
  rw [hiv] at HIV
  have HB1 : Hid (∀ A : Obj, Below w.heap.size w (w.alloc A)) := fun A => (Below.refl _ w).alloc (Nat.le_refl _) _
  generalize blkM L f q os.length = R at *
  obtain ⟨ukd, uline, ucol, utx, uquo⟩ := u
  have hq : q < n := by have := (List.getElem?_eq_some_iff.1 ht).1; have := h.len; omega
  obtain ⟨y0, y1, y2, y3, y4⟩ := h.tok ht
  rw [← hoq hq] at y0 y1 y2 y3 y4
  have i2 : (0 : Int) < (m : Int) := by omega
  have m1 : 1 ≤ m := by omega
  have hp0 : 0 < m := by omega
  have dm : decide (0 < m) = true := decide_eq_true (by omega)
  obtain ⟨kd, line, col, tx, quo⟩ := t
  unfold tokV at *
  dsimp only at *
  have y0a := cell_al y0
  have y1a := cell_al y1
  have y2a := cell_al y2
  have y3a := cell_al y3
  have y4a := cell_al y4
  have HI := HIV
  have HST : Hid (∀ (A : Array Value) (m : Nat) (W : World), Below (w.alloc (.cells A 39)).heap.size ((w.alloc (.cells A 39)).drewN m) W → Below w.heap.size w W) := fun A m W hW => (below_drewN (HB1.out _) m).trans (hW.mono (HB1.out _).size)
  clear h hm hc hblk hoq ht hq hB hu z1 y0 y1 y2 y3 y4 hiv HIV hC hkd
  go_enter Try.func53, Try.ntmps53
  go_wp2
  go_region_held3 (fun w' => w'.cell? ⟨gp, 1, none⟩ = some (.slice (some ⟨g, oq, none⟩) m c) ∧ w'.cell? ⟨g, oq, none⟩ = some (.int .i64 kd) ∧ w'.cell? ⟨g, oq + 1, none⟩ = some (.int .i64 line) ∧ w'.cell? ⟨g, oq + 2, none⟩ = some (.int .i64 col) ∧ w'.cell? ⟨g, oq + 3, none⟩ = some (.string tx) ∧ w'.cell? ⟨g, oq + 4, none⟩ = some (.bool quo) ∧ w'.cell? ⟨w.heap.size, 0, none⟩ = some (.int .i64 ukd) ∧ w'.cell? ⟨w.heap.size, 1, none⟩ = some (.int .i64 uline) ∧ w'.cell? ⟨w.heap.size, 2, none⟩ = some (.int .i64 ucol) ∧ w'.cell? ⟨w.heap.size, 3, none⟩ = some (.string utx) ∧ w'.cell? ⟨w.heap.size, 4, none⟩ = some (.bool uquo)) (go_keep) (first | (go_at_call 55; refine (HI.out _).mono ?_; rintro e w1 ⟨rfl, hb1⟩; have HB1' := hideL (HST.out _ 1 w1 hb1); obtain ⟨na, -⟩ := new_cell1 (m := 1) rfl hb1; have c0 := na 0 _ rfl; have c1 := na 1 _ rfl; have c2 := na 2 _ rfl; have c3 := na 3 _ rfl; have c4 := na 4 _ rfl; have e0 := cell_bel hb1 (y0a _); have e1 := cell_bel hb1 (y1a _); have e2 := cell_bel hb1 (y2a _); have e3 := cell_bel hb1 (y3a _); have e4 := cell_bel hb1 (y4a _); have e5 := cell_bel hb1 (z1a _); clear hb1 na))
  go_wp2_with (fail)
  refine (HW.out _ HB1'.out).mono ?_
  intro e w' hE
  cases R with
  | ok tr q' made' =>
    obtain ⟨rfl, hE2⟩ := hE
    have HE := hideL hE2
    clear hE2
    go_wp2_with (fail)
    go_end0
    exact ⟨rfl, HE.out⟩
  | bad l er q' made' =>
    obtain ⟨he, hE2⟩ := hE
    have HE := hideL hE2
    clear hE2
    unfold wrongE at he
    subst he
    exact ⟨rfl, rfl, HE.out⟩
theorem gvalue_any (w : World) (base gp : Nat) (doc : Int) (g off n cap : Nat) (L : List Tk) (q : Nat) (v : Value) (os : List Nx) (u : Tk) (key : ByteArray) (d : Int) (f : Nat) (hdf : d + (f : Int) = 17) (h : Gs w base gp doc g off n cap L q v os) (hu : u.kd = 2 ∨ u.kd = 3) (hks : key.size ≤ 281474976710656) (hC : BlkC base gp doc g off n cap L f d) :
    Calls Try.prog 53 #[.pointer (some ⟨gp, 0, none⟩), tokV u, .string key, .int .i64 d] w (GwE w base gp doc g off n cap L v os key (valM (blkM L f) (decide (f = 0)) L u q os.length)) := by
  cases hB : nxtV L u q with
  | true => exact gvalue_block w base gp doc g off n cap L q v os u key d f h hu hks hB hC
  | false => exact gvalue_leaf w base gp doc g off n cap L q v os u key d f hdf h hu hks hB
end Go.Proofs.Ytgododijnogegaa
