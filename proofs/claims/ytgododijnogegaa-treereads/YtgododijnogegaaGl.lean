/-
  A grower takes a block.
-/
import Derived.Test.YtgododijnogegaaGk
namespace Go.Proofs.Ytgododijnogegaa
open Go.RowKit
set_option linter.unusedVariables false
set_option linter.unusedSimpArgs false
set_option maxRecDepth 100000
/-- the kids stored: done -/
theorem Li.done {w wr : World} {base gp : Nat} {doc : Int} {g off n cap : Nat} {L : List Tk} {v0 : Value} {os : List Nx} {ts : List Tr} {kd : Int} {key tx : ByteArray} {quo : Bool} {ln : Int} {ka : Option Addr} {kc b m cp q : Nat} {ns : List Nx} (h : Li w wr base gp doc g off n cap L v0 (os ++ [bareN kd key tx quo ln]) ts (.slice ka ts.length kc) q (.slice (some ⟨b, 0, none⟩) m cp) ns) (hm : m = os.length + 1 + sizes ts) :
    Gs (wr.setCell ⟨b, os.length * 6 + 5, none⟩ (.slice ka ts.length kc)) base gp doc g off n cap L q (.slice (some ⟨b, 0, none⟩) m cp) (os ++ (⟨kd, key, tx, quo, ln, ka, ts.length, kc, starts ts (os.length + 1)⟩ :: ns)) ∧ (List.map Nx.nd ((⟨kd, key, tx, quo, ln, ka, ts.length, kc, starts ts (os.length + 1)⟩ : Nx) :: ns) = Tr.flat (.node kd key tx quo ln ts) os.length) ∧ Tg w (wr.setCell ⟨b, os.length * 6 + 5, none⟩ (.slice ka ts.length kc)) gp v0 ∧ (∀ o ∈ ((⟨kd, key, tx, quo, ln, ka, ts.length, kc, starts ts (os.length + 1)⟩ : Nx) :: ns), ∀ r, o.kv.ownBlock = some r → w.heap.size ≤ r) := by
  have hl := h.lens
  have hlo : (os ++ [bareN kd key tx quo ln]).length = os.length + 1 := by simp
  rw [hlo] at hl
  have hO := h.gs.own
  rw [List.append_assoc] at hO
  have hr := hO.row
  have hl2 : (os ++ ([bareN kd key tx quo ln] ++ ns)).length = m := by rw [hm, ← hl, List.append_assoc]
  rw [hl2] at hr
  have hbb : base ≤ b := (hr.lt b rfl).1
  have hts : ts.length ≤ 17592186043904 := by
    have := len_sizes ts
    have := h.gs.few
    rw [h.lens, hlo] at this
    omega
  have hkid := h.kids
  rw [hlo] at hkid
  have ho : ∀ k, k ≠ b → (wr.setCell ⟨b, os.length * 6 + 5, none⟩ (.slice ka ts.length kc)).heap[k]? = wr.heap[k]? := fun k hk => Below.heap_setCell _ _ _ _ hk
  have hown : Own (wr.setCell ⟨b, os.length * 6 + 5, none⟩ (.slice ka ts.length kc)) base (.slice (some ⟨b, 0, none⟩) m cp) (os ++ (⟨kd, key, tx, quo, ln, ka, ts.length, kc, starts ts (os.length + 1)⟩ :: ns)) := by
    refine ⟨?_, fun x hx => ?_⟩
    · have h1 := (hr.stored (os.length * 6 + 5) (.slice ka ts.length kc)).1
      have e2 : (rowsN (os ++ ([bareN kd key tx quo ln] ++ ns))).set (os.length * 6 + 5) (.slice ka ts.length kc) = rowsN (os ++ (⟨kd, key, tx, quo, ln, ka, ts.length, kc, starts ts (os.length + 1)⟩ :: ns)) := by
        rw [rowsN_append os, rowsN_append os, List.set_append_right _ _ (by rw [rowsN_length]; omega), rowsN_length]
        rw [show os.length * 6 + 5 - os.length * 6 = 5 by omega]
        rfl
      rw [e2] at h1
      have e3 : (os ++ (⟨kd, key, tx, quo, ln, ka, ts.length, kc, starts ts (os.length + 1)⟩ : Nx) :: ns).length = m := by rw [← hl2]; simp
      rw [e3]
      exact h1
    · have hne : ∀ k, k = b → ∀ (v1 : Value) n1 x1, wr.ownsRow base 3 1 v1 n1 x1 → v1.ownBlock ≠ some k := fun k hk v1 n1 x1 hv e => by
        subst hk
        exact own_ne hv hr e rfl
      rcases List.mem_append.1 hx with hx | hx
      · have hx' := hO.kids x (List.mem_append.2 (.inl hx))
        exact ⟨own_block hx'.1 (fun k hk => ho k (fun e => hne k e _ _ _ hx'.1 hk)), hx'.2⟩
      · rcases List.mem_cons.1 hx with rfl | hx
        · exact ⟨own_block hkid (fun k hk => ho k (fun e => hne k e _ _ _ hkid hk)), hts⟩
        · have hx' := hO.kids x (List.mem_append.2 (.inr (List.mem_append.2 (.inr hx))))
          exact ⟨own_block hx'.1 (fun k hk => ho k (fun e => hne k e _ _ _ hx'.1 hk)), hx'.2⟩
  have hg := h.gs
  have hgp := hg.gplt
  have hgl := hg.glt
  refine ⟨?_, ?_, ?_, fun x hx r hr2 => ?_⟩
  · have hk := hg.own
    exact {
      blk := by
        obtain ⟨oq, h1, h2⟩ := hg.blk
        exact ⟨oq, (ho gp (by omega)).trans h1, h2⟩
      ts := fun i t hi j u hu => by
        rw [← hg.ts i t hi j u hu]
        exact World.cell?_of_block (w := wr) (a := ⟨g, off + i * 5 + j, none⟩) (ho g (by omega))
      str := hg.str
      len := hg.len
      small := hg.small
      ncap := hg.ncap
      cape := hg.cape
      q := hg.q
      gne := hg.gne
      glt := hg.glt
      gplt := hg.gplt
      own := hown
      few := by
        have := hg.few
        rw [h.lens, hlo] at this
        have e3 : (os ++ (⟨kd, key, tx, quo, ln, ka, ts.length, kc, starts ts (os.length + 1)⟩ : Nx) :: ns).length = m := by rw [← hl2]; simp
        rw [e3, hm]; omega
      bw := by have := hg.bw; simpa [World.setCell] using this }
  · rw [Tr.flat, List.map_cons, h.nds, hlo]; rfl
  · refine h.tg.trans (v1 := .slice (some ⟨b, 0, none⟩) m cp) ⟨rfl, rfl, rfl, by simp [World.setCell], fun k hk _ hne => ho k (fun e => hne (by rw [e]; rfl))⟩ h.row
  · rcases List.mem_cons.1 hx with rfl | hx
    · exact h.far r hr2
    · exact (h.new x hx r hr2).1
/-- what the walks of a block begin with -/
structure Bst (w : World) (base gp : Nat) (doc : Int) (g off n cap : Nat) (L : List Tk) (q : Nat) (v : Value) (os : List Nx) (t : Tk) (oq m c : Nat) : Prop where
  z1 : w.cell? ⟨gp, 1, none⟩ = some (.slice (some ⟨g, oq, none⟩) m c)
  m1 : 1 ≤ m
  y0 : w.cell? ⟨g, oq, none⟩ = some (.int .i64 t.kd)
  y1 : w.cell? ⟨g, oq + 1, none⟩ = some (.int .i64 t.line)
  y2 : w.cell? ⟨g, oq + 2, none⟩ = some (.int .i64 t.col)
  y3 : w.cell? ⟨g, oq + 3, none⟩ = some (.string t.tx)
  y4 : w.cell? ⟨g, oq + 4, none⟩ = some (.bool t.quo)
theorem Gs.bst {w : World} {base gp : Nat} {doc : Int} {g off n cap : Nat} {L : List Tk} {q : Nat} {v : Value} {os : List Nx} {t : Tk} (h : Gs w base gp doc g off n cap L q v os) (ht : L[q]? = some t) : ∃ oq m c, Bst w base gp doc g off n cap L q v os t oq m c := by
  obtain ⟨oq, hblk, hoq⟩ := h.blk
  have hq : q < n := by have := (List.getElem?_eq_some_iff.1 ht).1; have := h.len; omega
  obtain ⟨y0, y1, y2, y3, y4⟩ := h.tok ht
  rw [← hoq hq] at y0 y1 y2 y3 y4
  exact ⟨oq, n - q, cap - q, by rw [cell_block hblk]; rfl, by omega, y0, y1, y2, y3, y4⟩
/-- too deep, or too many -/
theorem block_dead (w : World) (base gp : Nat) (doc : Int) (g off n cap : Nat) (L : List Tk) (q : Nat) (v : Value) (os : List Nx) (t : Tk) (key : ByteArray) (d : Int) (h : Gs w base gp doc g off n cap L q v os) (ht : L[q]? = some t) (hkd : 2 ≤ t.kd ∧ t.kd ≤ 4) (hdead : 16 < d ∨ os.length = 4096) :
    Calls Try.prog 36 #[.pointer (some ⟨gp, 0, none⟩), .string key, .int .i64 d] w fun e w' => e = wrongE doc t.line 92 ∧ Tg w w' gp v := by
  obtain ⟨oq, m, c, z1, m1, y0, y1, y2, y3, y4⟩ := h.bst ht
  have HB : Hid (∀ (kd1 : Int) (tx1 : ByteArray) (q1 : Bool) (A : Obj), Calls Try.prog 44 #[.pointer (some ⟨gp, 0, none⟩), tokV t, nodV kd1 key tx1 q1, .int .i64 d] (w.alloc A) fun e w' => e = wrongE doc t.line 92 ∧ Tg w w' gp v) := fun kd1 tx1 q1 A => by
    have hb : Below w.heap.size w (w.alloc A) := (Below.refl _ w).alloc (Nat.le_refl _) _
    refine (begin_bad (w.alloc A) base gp doc g off n cap L q v os t kd1 key tx1 q1 d (h.below hb) hdead).mono ?_
    rintro e w' ⟨rfl, hb2⟩
    exact ⟨rfl, (Tg.of_below gp v hb).trans (Tg.of_below gp v hb2) (.inl rfl)⟩
  have i2 : (0 : Int) < (m : Int) := by omega
  have hp0 : 0 < m := by omega
  obtain ⟨kd, line, col, tx, quo⟩ := t
  unfold tokV nodV at HB
  dsimp only at *
  clear h ht hdead
  have hk : kd = 4 ∨ kd = 3 ∨ kd = 2 := by omega
  clear hkd
  rcases hk with rfl | rfl | rfl
  · go_enter Try.func36, Try.ntmps36
    go_wp2_with (go_at_call 44; refine (HB.out _ _ _ _).mono ?_; rintro e w' ⟨he, hb⟩; unfold wrongE at he; subst he)
    exact ⟨rfl, rfl, hb⟩
  · go_enter Try.func36, Try.ntmps36
    go_wp2_with (go_at_call 44; refine (HB.out _ _ _ _).mono ?_; rintro e w' ⟨he, hb⟩; unfold wrongE at he; subst he)
    exact ⟨rfl, rfl, hb⟩
  · go_enter Try.func36, Try.ntmps36
    go_wp2_with (go_at_call 44; refine (HB.out _ _ _ _).mono ?_; rintro e w' ⟨he, hb⟩; unfold wrongE at he; subst he)
    exact ⟨rfl, rfl, hb⟩
/-- a scalar -/
theorem block_leaf (w : World) (base gp : Nat) (doc : Int) (g off n cap : Nat) (L : List Tk) (q : Nat) (v : Value) (os : List Nx) (t : Tk) (key : ByteArray) (d : Int) (h : Gs w base gp doc g off n cap L q v os) (ht : L[q]? = some t) (hkd : t.kd = 4) (hd : d ≤ 16) (hl : os.length < 4096) (hks : key.size ≤ 281474976710656) :
    Calls Try.prog 36 #[.pointer (some ⟨gp, 0, none⟩), .string key, .int .i64 d] w (GwE w base gp doc g off n cap L v os key (.ok (.node 1 ByteArray.empty t.tx t.quo t.line []) (q + 1) (os.length + 1))) := by
  obtain ⟨oq, m, c, z1, m1, y0, y1, y2, y3, y4⟩ := h.bst ht
  have hq : q < n := by have := (List.getElem?_eq_some_iff.1 ht).1; have := h.len; omega
  have HB : Hid (∀ (A : Obj), Calls Try.prog 44 #[.pointer (some ⟨gp, 0, none⟩), tokV t, nodV 1 key t.tx t.quo, .int .i64 d] (w.alloc A) fun e w' => (∃ z, e = .returned (.int .i64 z)) ∧ Calls Try.prog 45 #[.pointer (some ⟨gp, 0, none⟩)] w' fun e2 w2 => e2 = .returned (tokV t) ∧ GwE w base gp doc g off n cap L v os key (.ok (.node 1 ByteArray.empty t.tx t.quo t.line []) (q + 1) (os.length + 1)) (.returned (.tuple #[])) w2) := fun A => by
    have hb : Below w.heap.size w (w.alloc A) := (Below.refl _ w).alloc (Nat.le_refl _) _
    refine (begin_ok (w.alloc A) base gp doc g off n cap L q v os t 1 key t.tx t.quo d (h.below hb) hd hl hks (h.str t (List.mem_of_getElem? ht))).mono ?_
    rintro e w' ⟨rfl, v', hg, htg, hr⟩
    refine ⟨⟨_, rfl⟩, ?_⟩
    refine (take_any w' base gp doc g off n cap L q v' _ t hg hq ht).mono ?_
    rintro e2 w2 ⟨rfl, hg2, hb2⟩
    exact ⟨rfl, GwE.of_below hb (GwE.leaf hg2 (htg.trans (Tg.of_but v' hb2) hr) hr)⟩
  have i2 : (0 : Int) < (m : Int) := by omega
  have hp0 : 0 < m := by omega
  obtain ⟨kd, line, col, tx, quo⟩ := t
  unfold tokV nodV at HB
  dsimp only at *
  subst hkd
  clear h ht hq hks hl
  generalize (Rr.ok (.node 1 ByteArray.empty tx quo line []) (q + 1) (os.length + 1)) = R at *
  go_enter Try.func36, Try.ntmps36
  go_wp2_with (first
    | (go_at_call 44; refine (HB.out _).mono ?_; rintro e w' ⟨⟨z, rfl⟩, hT⟩)
    | (go_at_call 45; refine hT.mono ?_; rintro e2 w2 ⟨rfl, hE⟩; have HE := hideL hE; clear hE))
  go_end0
  exact HE.out
end Go.Proofs.Ytgododijnogegaa
