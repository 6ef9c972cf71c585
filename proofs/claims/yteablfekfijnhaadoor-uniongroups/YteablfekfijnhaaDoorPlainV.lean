/- What trees come to: in other orders, with the first one's right, in two steps. -/
import Derived.Test.YteablfekfijnhaaDoorPlainU
namespace Go.Proofs.YteablfekfijnhaaDoor

theorem flat_bound : ∀ (ts : List (List Nd)) (m : Nat), (∀ t ∈ ts, t.length ≤ m) → ts.flatten.length ≤ ts.length * m
  | [], _, _ => by simp
  | t :: r, m, h => by
    have h1 := h t (by simp)
    have h2 := flat_bound r m fun x hx => h x (by simp [hx])
    rw [List.flatten_cons, List.length_append, List.length_cons, Nat.add_mul]
    omega

theorem union_cases {policy : Int} {ts : List (List Nd)} {es : List Nd} {err : Int} (hp : policy = 0 ∨ policy = 1) (h : UnionIs policy ts es err) (hl : ts.flatten.length < 400) :
    (ts.all rootedB = false ∧ es = [] ∧ err = 7) ∨ (ts.all rootedB = true ∧ policy = 0 ∧ (layAll [ndRoot] true ts.flatten).2 = false ∧ es = [] ∧ err = 9) ∨
    (ts.all rootedB = true ∧ (policy = 0 → (layAll [ndRoot] true ts.flatten).2 = true) ∧ Sorted (layAll [ndRoot] true ts.flatten).1 es ∧ err = 0) := by
  unfold UnionIs at h
  rw [if_neg (by omega)] at h
  by_cases hr : ts.all rootedB = false
  · rw [if_pos hr] at h
    exact .inl ⟨hr, h.1, h.2⟩
  · rw [if_neg hr] at h
    have hr' : ts.all rootedB = true := by simpa using hr
    by_cases hc : policy = 0 ∧ (layAll [ndRoot] true ts.flatten).2 = false
    · rw [if_pos hc] at h
      exact .inr (.inl ⟨hr', hc.1, hc.2, h.1, h.2⟩)
    · have hlen := layAll_len [ndRoot] true ts.flatten
      simp only [List.length_singleton] at hlen
      rw [if_neg hc, if_neg (by omega)] at h
      refine .inr (.inr ⟨hr', fun h0 => ?_, h.1, h.2⟩)
      cases k : (layAll [ndRoot] true ts.flatten).2 with
      | true => rfl
      | false => exact absurd ⟨h0, k⟩ hc

theorem rooted_pil {ts : List (List Nd)} (h : ts.all rootedB = true) : Pil (layAll [ndRoot] true ts.flatten).1 := Pil.one.layAll (rooted_ahead h).good true
theorem sorted_tree {ts : List (List Nd)} {es : List Nd} (h : ts.all rootedB = true) (hl : ts.flatten.length < 400) (hs : Sorted (layAll [ndRoot] true ts.flatten).1 es) : Tree es ∧ ndRoot ∈ es := by
  have hlen := layAll_len [ndRoot] true ts.flatten
  simp only [List.length_singleton] at hlen
  exact ⟨hs.tree (rooted_pil h) (by omega), (hs.mem _).2 (rooted_pil h).root⟩
theorem mem_turned {ts ss : List (List Nd)} (h : ∀ t, t ∈ ts ↔ t ∈ ss) (x : Nd) : x ∈ ts.flatten ↔ x ∈ ss.flatten := by
  rw [List.mem_flatten, List.mem_flatten]
  exact exists_congr fun t => and_congr_left' (h t)
theorem fun_turned {P ns ms : List Nd} (h : ∀ x, x ∈ ns ↔ x ∈ ms) : Fun P ns ↔ Fun P ms := by
  unfold Fun
  simp only [h]

theorem order_fact {ts ss : List (List Nd)} {a b : List Nd} {e f : Int} (hm : ∀ t, t ∈ ts ↔ t ∈ ss) (h1 : UnionIs 0 ts a e) (h2 : UnionIs 0 ss b f) (hl : ts.flatten.length < 400) (hl2 : ss.flatten.length < 400) :
    e = f ∧ a = b ∧ (e ≠ 0 → a = []) ∧ (e = 0 → Tree a ∧ (∀ t ∈ ts, ∀ n ∈ t, n ∈ a) ∧ ∀ c g, UnionIs 1 ts c g → g = 0 ∧ c = a) := by
  have hall : ts.all rootedB = ss.all rootedB := by
    rw [Bool.eq_iff_iff, List.all_eq_true, List.all_eq_true]
    exact forall_congr' fun t => by rw [hm t]
  rcases union_cases (.inl rfl) h1 hl with ⟨r1, rfl, rfl⟩ | ⟨r1, _, c1, rfl, rfl⟩ | ⟨r1, c1, s1, rfl⟩
  · rcases union_cases (.inl rfl) h2 hl2 with ⟨r2, rfl, rfl⟩ | ⟨r2, _⟩ | ⟨r2, _⟩
    · exact ⟨rfl, rfl, fun _ => rfl, fun h => by cases h⟩
    · rw [hall, r2] at r1; cases r1
    · rw [hall, r2] at r1; cases r1
  · have a1 := (rooted_ahead r1).mono (S' := [ndRoot]) fun x hx => by cases hx
    have a2 := (rooted_ahead (hall ▸ r1)).mono (S' := [ndRoot]) fun x hx => by cases hx
    rcases union_cases (.inl rfl) h2 hl2 with ⟨r2, _⟩ | ⟨r2, _, c2, rfl, rfl⟩ | ⟨r2, c2, _⟩
    · rw [hall, r2] at r1; cases r1
    · exact ⟨rfl, rfl, fun _ => rfl, fun h => by cases h⟩
    · have k := (ok_iff Pil.one a1).2 ((fun_turned (mem_turned hm)).2 ((ok_iff Pil.one a2).1 (c2 rfl)))
      rw [k] at c1; cases c1
  · have a1 := (rooted_ahead r1).mono (S' := [ndRoot]) fun x hx => by cases hx
    have a2 := (rooted_ahead (hall ▸ r1)).mono (S' := [ndRoot]) fun x hx => by cases hx
    have f1 := (ok_iff Pil.one a1).1 (c1 rfl)
    have f2 := (fun_turned (mem_turned hm)).1 f1
    rcases union_cases (.inl rfl) h2 hl2 with ⟨r2, _⟩ | ⟨r2, _, c2, _⟩ | ⟨r2, c2, s2, rfl⟩
    · rw [hall, r2] at r1; cases r1
    · rw [(ok_iff Pil.one a2).2 f2] at c2; cases c2
    · have m1 := (all_ok Pil.one a1 f1).2
      have m2 := (all_ok Pil.one a2 f2).2
      obtain ⟨t1, t2⟩ := sorted_tree r1 hl s1
      refine ⟨rfl, s1.eq s2 (rooted_pil r1) (rooted_pil r2) fun x => by rw [m1, m2, mem_turned hm], fun h => absurd rfl h, fun _ => ⟨t1, fun t ht n hn => ?_, fun c g hc => ?_⟩⟩
      · exact (s1.mem n).2 ((m1 n).2 (.inr (List.mem_flatten.2 ⟨t, ht, hn⟩)))
      · rcases union_cases (.inr rfl) hc hl with ⟨r3, _⟩ | ⟨_, h0, _⟩ | ⟨r3, c3, s3, rfl⟩
        · rw [r3] at r1; cases r1
        · cases h0
        · exact ⟨rfl, s3.eq s1 (rooted_pil r1) (rooted_pil r1) fun x => Iff.rfl⟩

theorem rooted_pile {t : List Nd} (h : rootedB t = true) : Pil t := by
  obtain ⟨ht, r, rfl⟩ := rooted_tree h
  exact ⟨rising_nd ht.rise, ht.good, by simp, ht.up⟩
theorem lay_all_again {P : List Nd} (h : Pil P) (a : Bool) : ∀ {ns : List Nd}, (∀ n ∈ ns, n ∈ P) → layAll P a ns = (P, a)
  | [], _ => rfl
  | n :: r, k => by
    show layAll (layN P n).1 ((layN P n).2 && a) r = _
    rw [lay_again h (k n (by simp)), Bool.true_and]
    exact lay_all_again h a fun x hx => k x (by simp [hx])
/-- A tree over itself is itself. -/
theorem twice_fact {policy : Int} (hp : policy = 0 ∨ policy = 1) {t b : List Nd} {f : Int} (hr : rootedB t = true) (hl : t.length < 200) (h : UnionIs policy [t, t] b f) : f = 0 ∧ b = t := by
  have e : layAll [ndRoot] true [t, t].flatten = (t, true) := by
    rw [show [t, t].flatten = t ++ t by simp, layAll_app, lay_tree hr, lay_all_again (rooted_pile hr) true fun n hn => hn]
  rcases union_cases hp h (by simp; omega) with ⟨r1, _⟩ | ⟨_, _, c1, _⟩ | ⟨_, _, s1, rfl⟩
  · simp [hr] at r1
  · rw [e] at c1; cases c1
  · rw [e] at s1
    exact ⟨rfl, rising_same (s1.rise (rooted_pile hr).nd) (rooted_tree hr).1.rise s1.mem⟩
theorem first_fact {t0 : List Nd} {r : List (List Nd)} {a : List Nd} {e : Int} (h : UnionIs 1 (t0 :: r) a e) (hl : (t0 :: r).flatten.length < 400) :
    (e ≠ 0 → a = [] ∧ e = 7) ∧ (e = 0 → Tree a ∧ (∀ t ∈ t0 :: r, rootedB t = true) ∧ rootedB a = true ∧ (∀ n ∈ t0, n ∈ a) ∧ (∀ n ∈ a, ∃ t ∈ t0 :: r, n ∈ t) ∧ a.length ≤ (t0 :: r).flatten.length + 1) := by
  rcases union_cases (.inr rfl) h hl with ⟨_, rfl, rfl⟩ | ⟨_, h0, _⟩ | ⟨r1, _, s1, rfl⟩
  · exact ⟨fun _ => ⟨rfl, rfl⟩, fun h => by cases h⟩
  · cases h0
  · obtain ⟨t1, t2⟩ := sorted_tree r1 hl s1
    have hr := List.all_eq_true.1 r1
    refine ⟨fun h => absurd rfl h, fun _ => ⟨t1, hr, rooted_of t1 t2, fun n hn => ?_, fun n hn => ?_, by rw [← (alike_perm s1.alike).length_eq]; have := layAll_len [ndRoot] true (t0 :: r).flatten; simp only [List.length_singleton] at this; omega⟩⟩
    · rw [s1.mem, List.flatten_cons, layAll_app, lay_tree (hr t0 (by simp))]
      exact layAll_sub _ _ _ hn
    · rcases layAll_mem ((s1.mem n).1 hn) with h1 | h1
      · obtain ⟨_, s, e⟩ := rooted_tree (hr t0 (by simp))
        exact ⟨t0, by simp, by rw [List.mem_singleton.1 h1, e]; simp⟩
      · obtain ⟨t, ht, hn⟩ := List.mem_flatten.1 h1
        exact ⟨t, ht, hn⟩

/-- In two steps, and with the root alone. -/
theorem groups_fact {policy : Int} (hp : policy = 0 ∨ policy = 1) {ts us : List (List Nd)} {all a : List Nd} {e f : Int} (hall : UnionIs policy (ts ++ us) all e) (ha : UnionIs policy ts a f) (hl : (ts ++ us).flatten.length < 190) :
    (e = 0 → f = 0) ∧ (e ≠ 0 → all = []) ∧ (e = 0 → a.length < 200 ∧ (∀ n ∈ a, goodB n = true) ∧ (∀ b g, UnionIs policy (a :: us) b g → g = 0 ∧ b = all) ∧ ∀ c h, UnionIs policy ([ndRoot] :: ((ts ++ us) ++ [[ndRoot]])) c h → h = 0 ∧ c = all) := by
  have hl2 : ts.flatten.length + us.flatten.length < 190 := by rw [List.flatten_append, List.length_append] at hl; exact hl
  rcases union_cases hp hall (by omega) with ⟨r1, rfl, rfl⟩ | ⟨_, _, _, rfl, rfl⟩ | ⟨r1, c1, s1, rfl⟩
  · exact ⟨(fun h => absurd h (by decide)), fun _ => rfl, (fun h => absurd h (by decide))⟩
  · exact ⟨(fun h => absurd h (by decide)), fun _ => rfl, (fun h => absurd h (by decide))⟩
  · have hr := List.all_eq_true.1 r1
    have rts : ts.all rootedB = true := List.all_eq_true.2 fun t ht => hr t (by simp [ht])
    have rus : us.all rootedB = true := List.all_eq_true.2 fun t ht => hr t (by simp [ht])
    have gus := (rooted_ahead rus).good
    have pk := rooted_pil rts
    have pall := rooted_pil r1
    rw [List.flatten_append, layAll_app] at c1 s1 pall
    have fk : policy = 0 → (layAll [ndRoot] true ts.flatten).2 = true := fun h0 => layAll_down (c1 h0)
    have hf : f = 0 ∧ Sorted (layAll [ndRoot] true ts.flatten).1 a := by
      rcases union_cases hp ha (by omega) with ⟨r2, _⟩ | ⟨_, h0, c2, _⟩ | ⟨_, _, s2, rfl⟩
      · rw [rts] at r2; cases r2
      · rw [fk h0] at c2; cases c2
      · exact ⟨rfl, s2⟩
    obtain ⟨hf0, sa⟩ := hf
    obtain ⟨ta, tr⟩ := sorted_tree rts (by omega) sa
    have ra := rooted_of ta tr
    have hlen := layAll_len [ndRoot] true ts.flatten
    simp only [List.length_singleton] at hlen
    have hal : a.length = (layAll [ndRoot] true ts.flatten).1.length := (alike_perm sa.alike).length_eq.symm
    refine ⟨fun _ => hf0, fun h => absurd rfl h, fun _ => ⟨by omega, ta.good, fun b g hb => ?_, fun c h hc => ?_⟩⟩
    · have e1 : layAll [ndRoot] true (a :: us).flatten = layAll a true us.flatten := by rw [List.flatten_cons, layAll_app, lay_tree ra]
      obtain ⟨k1, k2⟩ := layAll_same (ns := us.flatten) true (rooted_pile ra) pk sa.mem gus
      have e2 : (layAll (layAll [ndRoot] true ts.flatten).1 (layAll [ndRoot] true ts.flatten).2 us.flatten).1 = (layAll (layAll [ndRoot] true ts.flatten).1 true us.flatten).1 := layAll_fst _ _ _ _
      rcases union_cases hp hb (by rw [List.flatten_cons, List.length_append]; omega) with ⟨r2, _⟩ | ⟨_, h0, c2, _⟩ | ⟨_, _, s2, rfl⟩
      · rw [List.all_cons, ra, rus] at r2; cases r2
      · have := c1 h0
        rw [fk h0, ← k1] at this
        rw [e1, this] at c2
        cases c2
      · rw [e1] at s2
        refine ⟨rfl, s2.eq s1 ((rooted_pile ra).layAll gus true) pall fun x => ?_⟩
        rw [e2]
        exact k2 x
    · have e1 : layAll [ndRoot] true ([ndRoot] :: ((ts ++ us) ++ [[ndRoot]])).flatten = layAll [ndRoot] true (ts ++ us).flatten := by
        rw [List.flatten_cons, layAll_app, lay_all_again Pil.one true (fun n hn => hn), List.flatten_append, layAll_app]
        exact lay_all_again (rooted_pil r1) _ fun n hn => by
          rw [List.flatten_cons, List.flatten_nil, List.append_nil, List.mem_singleton] at hn
          rw [hn]
          exact (rooted_pil r1).root
      have r3 : ([ndRoot] :: ((ts ++ us) ++ [[ndRoot]])).all rootedB = true := by
        have h0 : rootedB [ndRoot] = true := by decide +kernel
        rw [List.all_cons, List.all_append, r1, List.all_cons, h0]
        rfl
      rw [← layAll_app, ← List.flatten_append] at c1 s1
      rcases union_cases hp hc (by simp only [List.flatten_cons, List.flatten_append, List.length_append, List.flatten_nil, List.length_singleton, List.length_nil]; omega) with ⟨r2, _⟩ | ⟨_, h0, c2, _⟩ | ⟨_, _, s2, rfl⟩
      · rw [r3] at r2; cases r2
      · rw [e1, c1 h0] at c2; cases c2
      · rw [e1] at s2
        exact ⟨rfl, s2.eq s1 (rooted_pil r1) (rooted_pil r1) fun x => Iff.rfl⟩
end Go.Proofs.YteablfekfijnhaaDoor
