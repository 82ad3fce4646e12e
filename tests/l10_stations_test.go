package tests

import (
	"fmt"
	"math"
	"slices"
	"strings"
	"testing"

	"loop.example/g01248/impl"
)

// row has Jobs for n stations.
type row struct {
	n    int
	jobs []impl.Job
}

func job(from, to, span, start int) impl.Job {
	return impl.Job{From: from, To: to, Span: span, Start: start}
}

// hopsOfText reads Hops as in a text of numbers: for each one its Job, From and Begin.
func hopsOfText(text string) []impl.Hop {
	hops := []impl.Hop{}
	for _, part := range strings.Fields(text) {
		hop := impl.Hop{}
		fmt.Sscanf(part, "%d:%d@%d", &hop.Job, &hop.From, &hop.Begin)
		hops = append(hops, hop)
	}
	return hops
}

// smallRows has all lists of up to two Jobs with small numbers, and some of three, for two and
// three stations.
func smallRows() []row {
	rows := []row{}
	for n := 2; n <= 3; n++ {
		all := []impl.Job{}
		for from := range n {
			for to := range n {
				for span := 1; span <= 3; span++ {
					for start := range 3 {
						if from != to {
							all = append(all, job(from, to, span, start))
						}
					}
				}
			}
		}
		rows = append(rows, row{n, nil})
		for i, a := range all {
			rows = append(rows, row{n, []impl.Job{a}})
			for j, b := range all {
				rows = append(rows, row{n, []impl.Job{a, b}})
				if (i+j)%3 == 0 {
					rows = append(rows, row{n, []impl.Job{a, b, all[(7*i+5*j)%len(all)]}})
				}
			}
		}
	}
	return rows
}

// largeRows has lists of all numbers of Jobs for all numbers of stations, by a short rule.
func largeRows() []row {
	rows := []row{}
	state := 1
	next := func(n int) int {
		state = (state*1103515245 + 12345) % (1 << 31)
		return state >> 16 % n
	}
	for n := 2; n <= impl.MaxStations; n++ {
		for k := 1; k <= impl.MaxJobs; k++ {
			for _, limits := range [][2]int{{1, 1}, {2, 3}, {5, 10}, {60, 30}, {60, 200}, {7, 1000}, {60, 1000}} {
				for range 3 {
					jobs := []impl.Job{}
					for range k {
						from := next(n)
						to := (from + 1 + next(n-1)) % n
						jobs = append(jobs, job(from, to, 1+next(limits[0]), next(limits[1])))
					}
					rows = append(rows, row{n, jobs})
				}
			}
		}
		end := n - 1
		rows = append(rows,
			row{n, slices.Repeat([]impl.Job{job(0, end, 60, 999)}, 5)}, row{n, slices.Repeat([]impl.Job{job(end, 0, 60, 999)}, 5)}, row{n, slices.Repeat([]impl.Job{job(0, end, 1, 0)}, 5)},
			row{n, []impl.Job{job(0, end, 60, 999), job(end, 0, 60, 0), job(0, end, 1, 999), job(end, 0, 1, 0), job(0, end, 30, 500)}},
			row{n, []impl.Job{job(0, end, 3, 0), job(end, 0, 3, 0)}}, row{n, []impl.Job{job(0, end, 10, 5), job(end, 0, 1, 8), job(end, 0, 1, 0), job(0, end, 2, 0), job(end, 0, 4, 3)}},
		)
	}
	return rows
}

// notRows has numbers of stations, and Jobs, that are not valid.
func notRows() []row {
	one := job(0, 1, 1, 0)
	rows := []row{}
	for _, n := range otherRows() {
		rows = append(rows, row{n, nil}, row{n, []impl.Job{one}}, row{n, []impl.Job{{}}})
	}
	for n := 2; n <= impl.MaxStations; n++ {
		rows = append(rows, row{n, slices.Repeat([]impl.Job{one}, 6)}, row{n, slices.Repeat([]impl.Job{one}, 7)}, row{n, make([]impl.Job, 5)}, row{n, slices.Repeat([]impl.Job{one}, 100000)})
		for _, other := range notJobs(n) {
			rows = append(rows, row{n, []impl.Job{other}}, row{n, []impl.Job{one, other}}, row{n, []impl.Job{other, one}}, row{n, []impl.Job{one, one, one, one, other}})
		}
	}
	return rows
}

func otherRows() []int {
	return []int{-7, -2, -1, 0, 1, 7, 8, 100, math.MinInt, math.MaxInt, 1 << 32, 1<<32 + 2, 1<<32 + 6}
}

func notJobs(n int) []impl.Job {
	jobs := []impl.Job{{}}
	for station := range n {
		jobs = append(jobs, job(station, station, 1, 0))
	}
	for _, other := range []int{-1, -2, n, n + 1, 100, math.MinInt, math.MaxInt, 1 << 32, 1<<32 + 1} {
		jobs = append(jobs, job(other, 0, 1, 0), job(0, other, 1, 0), job(n-1, other, 60, 999), job(other, n-1, 60, 999), job(other, other, 1, 0), job(other, other+1, 1, 0))
	}
	for _, span := range []int{0, -1, -60, 61, 62, math.MinInt, math.MaxInt, 1 << 32, 1<<32 + 1} {
		jobs = append(jobs, job(0, 1, span, 0), job(n-1, 0, span, 999))
	}
	for _, start := range []int{-1, -2, 1000, 1001, math.MinInt, math.MaxInt, 1 << 32, 1<<32 + 1} {
		jobs = append(jobs, job(0, 1, 1, start), job(n-1, 0, 60, start))
	}
	return jobs
}

// wayByHand returns all stations of a Job, its ends included.
func wayByHand(j impl.Job) []int {
	way := []int{}
	for station := min(j.From, j.To); station <= max(j.From, j.To); station++ {
		way = append(way, station)
	}
	if j.From > j.To {
		slices.Reverse(way)
	}
	return way
}

func nextByHand(j impl.Job, from int) int {
	way := wayByHand(j)
	return way[slices.Index(way, from)+1]
}

// gridByHand counts for each station and unit the Hops that keep it busy.
type gridByHand map[[2]int]int

func (g gridByHand) place(j impl.Job, from, begin int) {
	for unit := begin; unit < begin+j.Span; unit++ {
		g[[2]int{from, unit}]++
		g[[2]int{nextByHand(j, from), unit}]++
	}
}

func (g gridByHand) isFree(j impl.Job, from, begin int) bool {
	for unit := begin; unit < begin+j.Span; unit++ {
		if g[[2]int{from, unit}]+g[[2]int{nextByHand(j, from), unit}] > 0 {
			return false
		}
	}
	return true
}

func gridOf(jobs []impl.Job, plan []impl.Hop) gridByHand {
	g := gridByHand{}
	for _, hop := range plan {
		g.place(jobs[hop.Job], hop.From, hop.Begin)
	}
	return g
}

// planByHand lets each Hop wait unit by unit.
func planByHand(jobs []impl.Job, order []int) []impl.Hop {
	g := gridByHand{}
	plan := []impl.Hop{}
	for _, place := range order {
		j := jobs[place]
		begin := j.Start
		way := wayByHand(j)
		for _, from := range way[:len(way)-1] {
			for !g.isFree(j, from, begin) {
				begin++
			}
			g.place(j, from, begin)
			plan = append(plan, impl.Hop{Job: place, From: from, Begin: begin})
			begin += j.Span
		}
	}
	return sortedByHand(plan)
}

func sortedByHand(plan []impl.Hop) []impl.Hop {
	sorted := slices.Clone(plan)
	slices.SortStableFunc(sorted, func(a, b impl.Hop) int { return 10*(a.Begin-b.Begin) + a.Job - b.Job })
	return sorted
}

func endByHand(jobs []impl.Job, plan []impl.Hop) int {
	end := 0
	for at := range gridOf(jobs, plan) {
		end = max(end, at[1]+1)
	}
	return end
}

// isPlanByHand looks for each Hop that a plan has to have, and counts what else there is.
func isPlanByHand(jobs []impl.Job, plan []impl.Hop) bool {
	found := 0
	for place, j := range jobs {
		ready := j.Start
		way := wayByHand(j)
		for _, from := range way[:len(way)-1] {
			at := slices.IndexFunc(plan, func(hop impl.Hop) bool { return hop.Job == place && hop.From == from })
			if at < 0 || plan[at].Begin < ready || plan[at].Begin > 9999 {
				return false
			}
			ready = plan[at].Begin + j.Span
			found++
		}
	}
	if found != len(plan) || !slices.Equal(plan, sortedByHand(plan)) {
		return false
	}
	for _, count := range gridOf(jobs, plan) {
		if count > 1 {
			return false
		}
	}
	return true
}

// ordersByHand returns all orders of k places, the lexicographically first one first.
func ordersByHand(k int) [][]int {
	orders := [][]int{{}}
	for range k {
		longer := [][]int{}
		for _, order := range orders {
			for place := range k {
				if !slices.Contains(order, place) {
					longer = append(longer, append(slices.Clone(order), place))
				}
			}
		}
		orders = longer
	}
	return orders
}

func TestJobsAndTheirSteps(t *testing.T) {
	if impl.MaxStations != 6 || impl.MaxJobs != 5 || impl.MaxSpan != 60 || impl.MaxBegin != 9999 {
		t.Fatal("limits")
	}
	for n := 2; n <= impl.MaxStations; n++ {
		for from := range n {
			for to := range n {
				for _, span := range []int{1, 2, 30, 59, 60} {
					for _, start := range []int{0, 1, 500, 998, 999} {
						j := job(from, to, span, start)
						is, one := impl.IsJob(n, j)
						steps, two := impl.StepsOf(n, j)
						if !one || is != (from != to) || two != is || steps != len(wayByHand(j))-1 {
							t.Errorf("%d, %v: %v, %v, %d, %v", n, j, is, one, steps, two)
						}
					}
				}
			}
		}
		for _, other := range notJobs(n) {
			is, one := impl.IsJob(n, other)
			steps, two := impl.StepsOf(n, other)
			if !one || is || two || steps != 0 {
				t.Errorf("%d, %v: %v, %v, %d, %v", n, other, is, one, steps, two)
			}
		}
	}
	for _, n := range otherRows() {
		for _, j := range []impl.Job{{}, job(0, 1, 1, 0), job(1, 0, 60, 999), job(0, n-1, 1, 0), job(-1, 0, 1, 0)} {
			is, one := impl.IsJob(n, j)
			steps, two := impl.StepsOf(n, j)
			if one || is || two || steps != 0 {
				t.Errorf("%d, %v: %v, %v, %d, %v", n, j, is, one, steps, two)
			}
		}
	}
}

func TestPlansInOrderWaitUnitByUnit(t *testing.T) {
	for _, r := range append(smallRows(), largeRows()...) {
		orders := ordersByHand(len(r.jobs))
		if len(orders) > 6 {
			orders = [][]int{orders[0], orders[len(orders)/3], orders[len(orders)-1]}
		}
		for _, order := range orders {
			want := planByHand(r.jobs, order)
			plan, ok := impl.PlanInOrder(r.n, r.jobs, order)
			if !ok || !slices.Equal(plan, want) {
				t.Fatalf("PlanInOrder(%v, %v) = %v, %v, not %v", r, order, plan, ok, want)
			}
			if is, ok := impl.IsPlan(r.n, r.jobs, plan); !ok || !is {
				t.Fatalf("IsPlan(%v, %v) = %v, %v", r, plan, is, ok)
			}
			end, one := impl.EndOf(r.n, r.jobs, plan)
			least, two := impl.LeastEnd(r.n, r.jobs)
			if !one || !two || end != endByHand(r.jobs, want) || end < least {
				t.Fatalf("%v, %v: %d, %v, %d, %v", r, order, end, one, least, two)
			}
		}
	}
}

func TestPlansInOrderThatAreWrittenOut(t *testing.T) {
	both := []impl.Job{job(0, 2, 2, 0), job(2, 0, 3, 1)}
	gap := []impl.Job{job(0, 1, 4, 10), job(0, 1, 6, 4), job(1, 0, 5, 3), job(2, 1, 3, 0)}
	for _, x := range []struct {
		n     int
		jobs  []impl.Job
		order []int
		plan  string
		end   int
		waits []int
	}{
		{2, nil, nil, "", 0, nil}, {6, nil, []int{}, "", 0, nil}, {2, []impl.Job{job(0, 1, 1, 0)}, []int{0}, "0:0@0", 1, []int{0}}, {2, []impl.Job{job(1, 0, 60, 999)}, []int{0}, "0:1@999", 1059, []int{0}},
		{3, both, []int{0, 1}, "0:0@0 0:1@2 1:2@4 1:1@7", 10, []int{0, 3}}, {3, both, []int{1, 0}, "1:2@1 1:1@4 0:0@7 0:1@9", 11, []int{7, 0}},
		{2, gap[:1], []int{0}, "0:0@10", 14, []int{0}},
		// The second Job just fits before the first one, the third one does not.
		{2, gap[:2], []int{0, 1}, "1:0@4 0:0@10", 14, []int{0, 0}}, {2, gap[:2], []int{1, 0}, "1:0@4 0:0@10", 14, []int{0, 0}}, {2, gap[:3], []int{0, 2, 1}, "2:1@3 0:0@10 1:0@14", 20, []int{0, 10, 0}}, {2, gap[:3], []int{0, 1, 2}, "1:0@4 0:0@10 2:1@14", 19, []int{0, 0, 11}},
		// The fourth Job does not touch station 0, but meets the others at station 1.
		{3, gap, []int{0, 1, 2, 3}, "3:2@0 1:0@4 0:0@10 2:1@14", 19, []int{0, 0, 11, 0}}, {3, gap, []int{3, 2, 1, 0}, "3:2@0 2:1@3 1:0@8 0:0@14", 18, []int{4, 4, 0, 0}},
		// Stations that are not the same do not disturb each other.
		{4, []impl.Job{job(0, 1, 60, 0), job(3, 2, 60, 0)}, []int{1, 0}, "0:0@0 1:3@0", 60, []int{0, 0}}, {6, []impl.Job{job(0, 1, 5, 0), job(2, 3, 5, 0), job(5, 4, 5, 0)}, []int{2, 0, 1}, "0:0@0 1:2@0 2:5@0", 5, []int{0, 0, 0}},
		// Two Jobs that meet in the middle, where the first one goes on at once.
		{6, []impl.Job{job(0, 5, 1, 0), job(5, 0, 1, 0)}, []int{0, 1}, "0:0@0 1:5@0 0:1@1 1:4@1 0:2@2 0:3@3 0:4@4 1:3@4 1:2@5 1:1@6", 7, []int{0, 2}},
		{3, []impl.Job{job(0, 2, 2, 0), job(0, 2, 2, 0)}, []int{1, 0}, "1:0@0 1:1@2 0:0@4 0:1@6", 8, []int{4, 0}},
	} {
		plan, one := impl.PlanInOrder(x.n, x.jobs, x.order)
		end, two := impl.EndOf(x.n, x.jobs, plan)
		waits, three := impl.WaitsOf(x.n, x.jobs, plan)
		if !one || !two || !three || !slices.Equal(plan, hopsOfText(x.plan)) || end != x.end || !slices.Equal(waits, x.waits) {
			t.Errorf("%d, %v, %v: %v, %v, %d, %v, %v, %v", x.n, x.jobs, x.order, plan, one, end, two, waits, three)
		}
	}
}

func TestOrdersThatAreNoneFail(t *testing.T) {
	for _, r := range []row{{2, nil}, {2, []impl.Job{job(0, 1, 1, 0)}}, {3, []impl.Job{job(0, 2, 1, 0), job(2, 1, 5, 3)}}, {6, slices.Repeat([]impl.Job{job(5, 0, 60, 999)}, 5)}} {
		k := len(r.jobs)
		all := ordersByHand(k)[0]
		orders := [][]int{append(slices.Clone(all), 0), append(slices.Clone(all), k), append(slices.Clone(all), -1), make([]int, 6), make([]int, 100000)}
		if k > 0 {
			orders = append(orders, nil, []int{}, all[1:], all[:k-1])
		}
		for place := range k {
			for _, other := range []int{-1, k, k + 1, 5, math.MinInt, math.MaxInt, 1 << 32, 1<<32 + place, (place + 1) % max(k, 2)} {
				changed := slices.Clone(all)
				changed[place] = other
				orders = append(orders, changed)
			}
		}
		for _, order := range orders {
			if plan, ok := impl.PlanInOrder(r.n, r.jobs, order); ok || len(plan) != 0 {
				t.Errorf("PlanInOrder(%v, %v) = %v, %v", r, order, plan, ok)
			}
		}
	}
}

// checkPlan compares all that is told of a list of Hops with what is found by hand.
func checkPlan(t *testing.T, r row, plan []impl.Hop) {
	t.Helper()
	want := isPlanByHand(r.jobs, plan)
	if is, ok := impl.IsPlan(r.n, r.jobs, plan); !ok || is != want {
		t.Fatalf("IsPlan(%v, %v) = %v, %v, not %v", r, plan, is, ok, want)
	}
	if !want {
		checkNoPlan(t, r, plan)
		return
	}
	g := gridOf(r.jobs, plan)
	end := endByHand(r.jobs, plan)
	if got, ok := impl.EndOf(r.n, r.jobs, plan); !ok || got != end {
		t.Fatalf("EndOf(%v, %v) = %d, %v, not %d", r, plan, got, ok, end)
	}
	if waits, ok := impl.WaitsOf(r.n, r.jobs, plan); !ok || !slices.Equal(waits, waitsByHand(r.jobs, plan)) {
		t.Fatalf("WaitsOf(%v, %v) = %v, %v", r, plan, waits, ok)
	}
	for unit := range end + 3 {
		busy := []int{}
		for station := range r.n {
			if g[[2]int{station, unit}] > 0 {
				busy = append(busy, station)
			}
		}
		if got, ok := impl.BusyAt(r.n, r.jobs, plan, unit); !ok || !slices.Equal(got, busy) {
			t.Fatalf("BusyAt(%v, %v, %d) = %v, %v, not %v", r, plan, unit, got, ok, busy)
		}
	}
	texts := []string{}
	for _, hop := range plan {
		texts = append(texts, fmt.Sprintf("%d%d>%d@%d", hop.Job, hop.From, nextByHand(r.jobs[hop.Job], hop.From), hop.Begin))
	}
	if text, ok := impl.PlanText(r.n, r.jobs, plan); !ok || text != strings.Join(texts, " ") {
		t.Fatalf("PlanText(%v, %v) = %q, %v", r, plan, text, ok)
	}
}

// waitsByHand counts the units from Start on in which a Job is not sent, up to its last Hop.
func waitsByHand(jobs []impl.Job, plan []impl.Hop) []int {
	waits := []int{}
	for place, j := range jobs {
		count, from, ready := 0, j.From, j.Start
		for unit := j.Start; from != j.To; unit++ {
			if slices.Contains(plan, impl.Hop{Job: place, From: from, Begin: unit}) {
				from, ready = nextByHand(j, from), unit+j.Span
			}
			if unit >= ready {
				count++
			}
		}
		waits = append(waits, count)
	}
	return waits
}

func checkNoPlan(t *testing.T, r row, plan []impl.Hop) {
	t.Helper()
	end, one := impl.EndOf(r.n, r.jobs, plan)
	waits, two := impl.WaitsOf(r.n, r.jobs, plan)
	text, three := impl.PlanText(r.n, r.jobs, plan)
	if one || two || three || end != 0 || len(waits) != 0 || text != "" {
		t.Fatalf("%v, %v: %d, %v, %v, %v, %q, %v", r, plan, end, one, waits, two, text, three)
	}
	for _, unit := range []int{0, 1, -1, 9999, math.MaxInt} {
		if busy, ok := impl.BusyAt(r.n, r.jobs, plan, unit); ok || len(busy) != 0 {
			t.Fatalf("BusyAt(%v, %v, %d) = %v, %v", r, plan, unit, busy, ok)
		}
	}
}

// changedPlans has a plan and what becomes of it by small changes, each also in the order of a plan.
func changedPlans(plan []impl.Hop) [][]impl.Hop {
	plans := [][]impl.Hop{plan, nil, slices.Concat(plan, plan)}
	for i, hop := range plan {
		plans = append(plans, plan[:i], plan[i:], slices.Delete(slices.Clone(plan), i, i+1), slices.Insert(slices.Clone(plan), i, hop))
		for _, by := range []impl.Hop{{Begin: -1}, {Begin: 1}, {Begin: -hop.Begin}, {Begin: 9999 - hop.Begin}, {Begin: 10000 - hop.Begin}, {Begin: -hop.Begin - 1}, {Begin: math.MaxInt - hop.Begin}, {Begin: math.MaxInt - 30 - hop.Begin}, {Begin: math.MinInt}, {Job: 1}, {Job: -1}, {Job: 5 - hop.Job}, {Job: 1 << 32}, {Job: math.MinInt}, {From: 1}, {From: -1}, {From: 2}, {From: -2}, {From: 6}, {From: math.MinInt}} {
			changed := slices.Clone(plan)
			changed[i] = impl.Hop{Job: hop.Job + by.Job, From: hop.From + by.From, Begin: hop.Begin + by.Begin}
			plans = append(plans, changed)
			// All Hops from this one on are as much later: that is a plan, if they do not go back.
			moved := slices.Clone(plan)
			for k := i; k < len(moved); k++ {
				moved[k].Begin += by.Begin
			}
			plans = append(plans, moved)
		}
		for k := range i {
			swapped := slices.Clone(plan)
			swapped[i], swapped[k] = swapped[k], swapped[i]
			begins := slices.Clone(plan)
			begins[i].Begin, begins[k].Begin = begins[k].Begin, begins[i].Begin
			plans = append(plans, swapped, begins)
		}
	}
	for _, changed := range slices.Clone(plans) {
		plans = append(plans, sortedByHand(changed))
	}
	return plans
}

func TestChangedPlansArePlansOrNot(t *testing.T) {
	for i, r := range append(smallRows(), largeRows()...) {
		// More of the few long rows than of the many short ones.
		if i%5 != 0 || r.n <= 3 && len(r.jobs) <= 3 && i%145 != 0 {
			continue
		}
		orders := ordersByHand(len(r.jobs))
		for _, plan := range changedPlans(planByHand(r.jobs, orders[(7*i)%len(orders)])) {
			is := isPlanByHand(r.jobs, plan)
			if got, ok := impl.IsPlan(r.n, r.jobs, plan); !ok || got != is {
				t.Fatalf("IsPlan(%v, %v) = %v, %v, not %v", r, plan, got, ok, is)
			}
			if !is {
				checkNoPlan(t, r, plan)
			}
		}
		plan := planByHand(r.jobs, orders[len(orders)/2])
		checkPlan(t, r, plan)
		for k := range plan {
			plan[k].Begin += 7 * (k + 1)
		}
		checkPlan(t, r, sortedByHand(plan))
	}
}

func TestPlansThatAreWrittenOut(t *testing.T) {
	jobs := []impl.Job{job(0, 2, 2, 0), job(2, 0, 3, 1)}
	// The second one goes from station 2 to station 3 while the first one is sent from 0 to 1.
	apart := []impl.Job{job(0, 2, 4, 1), job(2, 3, 4, 1)}
	for _, x := range []struct {
		n    int
		jobs []impl.Job
		plan string
		is   bool
	}{
		{2, nil, "", true}, {2, nil, "0:0@0", false}, {3, jobs, "", false}, {3, jobs, "0:0@0 0:1@2 1:2@4 1:1@7", true}, {3, jobs, "0:0@1 0:1@5 1:2@8 1:1@20", true}, {3, jobs, "1:2@1 1:1@4 0:0@7 0:1@9", true},
		{3, jobs, "0:0@0 0:1@2 1:2@4", false}, {3, jobs, "0:0@0 0:1@2", false}, {3, jobs, "0:0@0 0:1@2 1:1@4 1:0@7", false}, {3, jobs, "0:0@0 0:1@2 1:1@4 1:2@7", false}, {3, jobs, "0:0@0 0:1@2 1:2@4 1:1@7 1:0@10", false}, {3, jobs, "0:0@0 0:1@2 0:2@4 1:2@6 1:1@9", false}, {3, jobs, "0:0@0 0:1@2 1:2@4 1:1@7 1:1@10", false}, {3, jobs, "0:0@0 0:0@2 0:1@4 1:2@6 1:1@9", false},
		{3, jobs, "0:0@0 0:1@1 1:2@4 1:1@7", false}, {3, jobs, "0:0@0 0:1@2 1:2@3 1:1@7", false}, {3, jobs, "0:0@0 0:1@2 1:2@4 1:1@6", false}, {3, jobs, "0:0@-1 0:1@2 1:2@4 1:1@7", false}, {3, jobs, "1:2@0 1:1@3 0:0@6 0:1@8", false}, {3, jobs, "1:2@1 1:1@4 0:0@6 0:1@9", false}, {3, jobs, "1:2@0 0:0@3 0:1@5 1:1@7", false}, {3, jobs, "1:2@1 0:0@4 0:1@6 1:1@8", true}, {3, jobs, "1:2@1 0:0@3 0:1@6 1:1@8", false}, {3, jobs, "1:2@1 0:0@4 0:1@6 1:1@7", false},
		{3, jobs, "0:1@2 0:0@0 1:2@4 1:1@7", false}, {3, jobs, "0:0@0 1:2@4 0:1@2 1:1@7", false}, {3, jobs, "1:2@4 1:1@7 0:0@0 0:1@2", false}, {3, jobs, "1:0@0 1:1@2 0:2@4 0:1@7", false}, {3, jobs, "0:0@0 0:1@2 2:2@4 2:1@7", false}, {3, jobs, "0:0@0 0:1@2 -1:2@4 -1:1@7", false},
		{3, jobs, "0:0@0 0:1@2 1:2@4 1:1@9999", true}, {3, jobs, "0:0@0 0:1@2 1:2@4 1:1@10000", false}, {3, jobs, "0:0@0 0:1@2 1:2@9996 1:1@9999", true}, {3, jobs, "0:0@9994 0:1@9996 1:2@9998 1:1@10001", false}, {3, jobs[:1], "0:0@0 0:1@2", true}, {3, jobs[:1], "0:0@9997 0:1@9999", true}, {3, jobs[:1], "0:0@9998 0:1@10000", false},
		{4, apart, "0:0@1 1:2@1 0:1@5", true}, {4, apart, "1:2@1 0:0@1 0:1@5", false}, {4, apart, "0:0@1 1:2@2 0:1@5", false}, {4, apart, "0:0@1 1:2@2 0:1@6", true}, {4, apart, "0:0@1 0:1@5 1:2@9", true}, {4, apart, "0:0@1 0:1@5 1:2@8", false}, {4, apart, "0:0@0 1:2@1 0:1@5", false}, {4, apart, "1:2@0 0:0@1 0:1@5", false},
	} {
		r, plan := row{x.n, x.jobs}, hopsOfText(x.plan)
		if is, ok := impl.IsPlan(x.n, x.jobs, plan); !ok || is != x.is {
			t.Errorf("IsPlan(%v, %q) = %v, %v", r, x.plan, is, ok)
		}
		checkPlan(t, r, plan)
	}
	long := make([]impl.Hop, 100000)
	if is, ok := impl.IsPlan(3, jobs, long); !ok || is {
		t.Error("a long list", is, ok)
	}
	checkNoPlan(t, row{3, jobs}, long)
}

// allPlansByHand returns all plans of Jobs in which no Hop ends behind a unit.
func allPlansByHand(jobs []impl.Job, last int) [][]impl.Hop {
	plans := [][]impl.Hop{{}}
	for place, j := range jobs {
		way := wayByHand(j)
		for _, from := range way[:len(way)-1] {
			longer := [][]impl.Hop{}
			for _, plan := range plans {
				for begin := range last - j.Span + 1 {
					longer = append(longer, append(slices.Clone(plan), impl.Hop{Job: place, From: from, Begin: begin}))
				}
			}
			plans = longer
		}
	}
	sorted := [][]impl.Hop{}
	for _, plan := range plans {
		sorted = append(sorted, sortedByHand(plan))
	}
	return sorted
}

func TestNoPlanEndsBeforeLeastEnd(t *testing.T) {
	for _, r := range []row{{2, []impl.Job{job(0, 1, 2, 1), job(1, 0, 3, 0)}}, {2, []impl.Job{job(0, 1, 1, 0), job(1, 0, 2, 2), job(0, 1, 2, 1)}}, {3, []impl.Job{job(0, 2, 2, 0), job(2, 0, 1, 1)}}, {3, []impl.Job{job(0, 2, 1, 2), job(1, 2, 2, 0)}}, {3, []impl.Job{job(2, 0, 2, 1), job(0, 1, 3, 0)}}, {4, []impl.Job{job(0, 3, 1, 0), job(3, 2, 2, 3)}}, {3, []impl.Job{job(2, 0, 2, 3)}}} {
		least, ok := impl.LeastEnd(r.n, r.jobs)
		plans := 0
		for _, plan := range allPlansByHand(r.jobs, 8) {
			is, one := impl.IsPlan(r.n, r.jobs, plan)
			if !ok || !one || is != isPlanByHand(r.jobs, plan) {
				t.Fatalf("IsPlan(%v, %v) = %v, %v", r, plan, is, one)
			}
			if !is {
				continue
			}
			plans++
			checkPlan(t, r, plan)
			if end := endByHand(r.jobs, plan); end < least {
				t.Fatalf("%v: %v ends at %d, before %d", r, plan, end, least)
			}
		}
		if plans == 0 {
			t.Errorf("no plans of %v", r)
		}
	}
}

func TestLoadsAndLeastEnds(t *testing.T) {
	for _, r := range append(smallRows(), largeRows()...) {
		wantLoads := make([]int, r.n)
		want := 0
		for at, count := range gridOf(r.jobs, planByHand(r.jobs, ordersByHand(len(r.jobs))[0])) {
			wantLoads[at[0]] += count
		}
		for _, load := range wantLoads {
			want = max(want, load)
		}
		for _, j := range r.jobs {
			want = max(want, j.Start+j.Span*(len(wayByHand(j))-1))
		}
		loads, one := impl.LoadsOf(r.n, r.jobs)
		least, two := impl.LeastEnd(r.n, r.jobs)
		if !one || !two || !slices.Equal(loads, wantLoads) || least != want {
			t.Fatalf("%v: %v, %v, %d, %v, not %v, %d", r, loads, one, least, two, wantLoads, want)
		}
	}
	for _, x := range []struct {
		n     int
		jobs  []impl.Job
		loads []int
		least int
	}{
		{2, nil, []int{0, 0}, 0}, {6, nil, []int{0, 0, 0, 0, 0, 0}, 0}, {2, []impl.Job{job(1, 0, 1, 0)}, []int{1, 1}, 1}, {2, []impl.Job{job(0, 1, 60, 999)}, []int{60, 60}, 1059}, {6, []impl.Job{job(5, 0, 60, 999)}, []int{60, 120, 120, 120, 120, 60}, 1299},
		{3, []impl.Job{job(0, 2, 2, 0), job(2, 0, 3, 1)}, []int{5, 10, 5}, 10}, {6, slices.Repeat([]impl.Job{job(0, 5, 60, 0)}, 5), []int{300, 600, 600, 600, 600, 300}, 600}, {4, []impl.Job{job(2, 1, 5, 4), job(2, 3, 6, 1)}, []int{0, 5, 11, 6}, 11}, {4, []impl.Job{job(2, 1, 5, 7), job(2, 3, 6, 1)}, []int{0, 5, 11, 6}, 12},
	} {
		loads, one := impl.LoadsOf(x.n, x.jobs)
		least, two := impl.LeastEnd(x.n, x.jobs)
		if !one || !two || !slices.Equal(loads, x.loads) || least != x.least {
			t.Errorf("%d, %v: %v, %v, %d, %v", x.n, x.jobs, loads, one, least, two)
		}
	}
}

func checkBestOrder(t *testing.T, r row) {
	t.Helper()
	want, least := []int{}, 0
	for i, order := range ordersByHand(len(r.jobs)) {
		plan, ok := impl.PlanInOrder(r.n, r.jobs, order)
		if !ok {
			t.Fatalf("PlanInOrder(%v, %v) fails", r, order)
		}
		end := 0
		for _, hop := range plan {
			end = max(end, hop.Begin+r.jobs[hop.Job].Span)
		}
		if i == 0 || end < least {
			want, least = order, end
		}
	}
	if order, end, ok := impl.BestOrder(r.n, r.jobs); !ok || !slices.Equal(order, want) || end != least {
		t.Fatalf("BestOrder(%v) = %v, %d, %v, not %v, %d", r, order, end, ok, want, least)
	}
}

func TestBestOrderIsTheFirstOfAll(t *testing.T) {
	for _, r := range append(smallRows(), largeRows()...) {
		checkBestOrder(t, r)
	}
	for _, x := range []struct {
		n     int
		jobs  []impl.Job
		order []int
		end   int
	}{
		{2, nil, nil, 0}, {6, []impl.Job{}, nil, 0}, {2, []impl.Job{job(0, 1, 60, 999)}, []int{0}, 1059}, {3, []impl.Job{job(0, 2, 2, 0), job(2, 0, 3, 1)}, []int{0, 1}, 10}, {3, []impl.Job{job(2, 0, 3, 1), job(0, 2, 2, 0)}, []int{1, 0}, 10},
		{2, []impl.Job{job(0, 1, 4, 9), job(0, 1, 4, 0), job(0, 1, 4, 5)}, []int{0, 1, 2}, 13}, {2, []impl.Job{job(0, 1, 4, 9), job(0, 1, 5, 3), job(0, 1, 5, 0)}, []int{2, 1, 0}, 14}, {6, slices.Repeat([]impl.Job{job(0, 5, 60, 0)}, 5), []int{0, 1, 2, 3, 4}, 780}, {2, slices.Repeat([]impl.Job{job(1, 0, 60, 999)}, 5), []int{0, 1, 2, 3, 4}, 1299},
	} {
		if order, end, ok := impl.BestOrder(x.n, x.jobs); !ok || !slices.Equal(order, x.order) || end != x.end {
			t.Errorf("BestOrder(%d, %v) = %v, %d, %v, not %v, %d", x.n, x.jobs, order, end, ok, x.order, x.end)
		}
	}
}

func TestStreamsTakeTheirTime(t *testing.T) {
	for n := 2; n <= impl.MaxStations; n++ {
		for span := 1; span <= impl.MaxSpan; span++ {
			for k := 1; k <= impl.MaxJobs; k++ {
				spans := n - 1 + 2*(k-1)
				if n == 2 {
					spans = k
				}
				end, ok := impl.StreamEnd(n, span, k)
				if !ok || end != spans*span {
					t.Fatalf("StreamEnd(%d, %d, %d) = %d, %v", n, span, k, end, ok)
				}
				jobs := slices.Repeat([]impl.Job{job(0, n-1, span, 0)}, k)
				plan, one := impl.PlanInOrder(n, jobs, ordersByHand(k)[0])
				if of, two := impl.EndOf(n, jobs, plan); !one || !two || of != end {
					t.Fatalf("%d, %d, %d: %d, %v, %v", n, span, k, of, one, two)
				}
			}
		}
	}
	for _, x := range [][4]int{{3, 2, 2, 8}, {2, 1, 1, 1}, {2, 60, 1, 60}, {2, 60, 5, 300}, {3, 1, 1, 2}, {3, 1, 5, 10}, {6, 1, 1, 5}, {6, 60, 5, 780}} {
		if end, ok := impl.StreamEnd(x[0], x[1], x[2]); !ok || end != x[3] {
			t.Errorf("StreamEnd(%v) = %d, %v", x, end, ok)
		}
	}
	for _, other := range []int{-1, 0, 61, 62, math.MinInt, math.MaxInt, 1 << 32, 1<<32 + 2, -1 << 32} {
		for _, x := range [][3]int{{other, 1, 1}, {2, other, 1}, {3, 1, other}, {6, 60, other}, {6, other, 5}, {other, 60, 5}, {other, other, other}} {
			if end, ok := impl.StreamEnd(x[0], x[1], x[2]); ok || end != 0 {
				t.Errorf("StreamEnd(%v) = %d, %v", x, end, ok)
			}
		}
	}
	for _, x := range [][3]int{{1, 1, 1}, {7, 1, 1}, {2, 1, 6}, {6, 60, 6}, {6, 60, 7}, {7, 60, 5}, {1, 60, 5}} {
		if end, ok := impl.StreamEnd(x[0], x[1], x[2]); ok || end != 0 {
			t.Errorf("StreamEnd(%v) = %d, %v", x, end, ok)
		}
	}
}

func TestBusyUnitsBesideHops(t *testing.T) {
	jobs := []impl.Job{job(3, 1, 4, 2), job(0, 1, 2, 0), job(5, 4, 60, 999)}
	plan := hopsOfText("1:0@0 0:3@2 0:2@6 2:5@9999")
	for unit, want := range map[int][]int{0: {0, 1}, 1: {0, 1}, 2: {2, 3}, 5: {2, 3}, 6: {1, 2}, 9: {1, 2}, 10: {}, 9998: {}, 9999: {4, 5}, 10000: {4, 5}, 10058: {4, 5}, 10059: {}, 10060: {}, math.MaxInt: {}} {
		if busy, ok := impl.BusyAt(6, jobs, plan, unit); !ok || !slices.Equal(busy, want) {
			t.Errorf("BusyAt(%d) = %v, %v, not %v", unit, busy, ok, want)
		}
	}
	all := []impl.Job{job(5, 4, 3, 0), job(1, 0, 3, 1), job(2, 3, 3, 2)}
	if busy, ok := impl.BusyAt(6, all, hopsOfText("0:5@0 1:1@1 2:2@2"), 2); !ok || !slices.Equal(busy, []int{0, 1, 2, 3, 4, 5}) {
		t.Error("all stations", busy, ok)
	}
	for _, unit := range []int{-1, -2, -100, math.MinInt, -1 << 32} {
		one, is := impl.BusyAt(6, jobs, plan, unit)
		two, isAlso := impl.BusyAt(2, nil, nil, unit)
		if is || isAlso || len(one) != 0 || len(two) != 0 {
			t.Errorf("BusyAt(%d) = %v, %v, %v, %v", unit, one, is, two, isAlso)
		}
	}
	if busy, ok := impl.BusyAt(2, nil, nil, 0); !ok || len(busy) != 0 {
		t.Error("no Jobs", busy, ok)
	}
}

func TestPlanTextsThatAreWrittenOut(t *testing.T) {
	for _, x := range []struct {
		n    int
		jobs []impl.Job
		plan string
		text string
	}{
		{2, nil, "", ""}, {2, []impl.Job{job(0, 1, 1, 0)}, "0:0@0", "00>1@0"}, {6, []impl.Job{job(5, 4, 60, 999)}, "0:5@9999", "05>4@9999"}, {3, []impl.Job{job(0, 2, 2, 0), job(2, 0, 3, 1)}, "0:0@0 0:1@2 1:2@4 1:1@7", "00>1@0 01>2@2 12>1@4 11>0@7"},
		{6, []impl.Job{job(0, 1, 1, 0), job(3, 4, 2, 5), job(4, 3, 3, 0), job(1, 2, 4, 100), job(5, 3, 5, 7)}, "0:0@0 2:4@0 1:3@5 4:5@7 4:4@12 3:1@1000", "00>1@0 24>3@0 13>4@5 45>4@7 44>3@12 31>2@1000"},
	} {
		if text, ok := impl.PlanText(x.n, x.jobs, hopsOfText(x.plan)); !ok || text != x.text {
			t.Errorf("PlanText(%v, %q) = %q, %v", x.jobs, x.plan, text, ok)
		}
	}
}

func TestRowsThatAreNoneFail(t *testing.T) {
	for _, r := range notRows() {
		orders := [][]int{nil, {}, {0}, {0, 1}, {1, 0}, {0, 1, 2, 3, 4}, {0, 1, 2, 3, 4, 5}}
		for _, order := range orders {
			if plan, ok := impl.PlanInOrder(r.n, r.jobs, order); ok || len(plan) != 0 {
				t.Fatalf("PlanInOrder(%.200v, %v) = %v, %v", r, order, plan, ok)
			}
		}
		loads, one := impl.LoadsOf(r.n, r.jobs)
		least, two := impl.LeastEnd(r.n, r.jobs)
		order, end, three := impl.BestOrder(r.n, r.jobs)
		if one || two || three || len(loads) != 0 || least != 0 || len(order) != 0 || end != 0 {
			t.Fatalf("%d, %.200v: %v, %v, %d, %v, %v, %d, %v", r.n, r.jobs, loads, one, least, two, order, end, three)
		}
		for _, text := range []string{"", "0:0@0", "0:1@0", "0:0@0 0:1@1", "0:0@0 1:0@1", "0:0@0 1:0@1 2:0@2 3:0@3 4:0@4 5:0@5"} {
			plan := hopsOfText(text)
			if is, ok := impl.IsPlan(r.n, r.jobs, plan); ok || is {
				t.Fatalf("IsPlan(%d, %.200v, %q) = %v, %v", r.n, r.jobs, text, is, ok)
			}
			checkNoPlan(t, r, plan)
		}
	}
	// One station more or less is what makes these Jobs valid.
	for n := 2; n < impl.MaxStations; n++ {
		jobs := []impl.Job{job(0, n, 1, 0)}
		_, one := impl.LoadsOf(n, jobs)
		_, two := impl.LoadsOf(n+1, jobs)
		if one || !two {
			t.Errorf("%d stations: %v, %v", n, one, two)
		}
	}
}

func TestStationsModifyNothingAndShareNothing(t *testing.T) {
	allJobs := []impl.Job{job(0, 2, 2, 0), job(2, 0, 3, 1), job(1, 2, 60, 999), job(0, 1, 1, 0)}
	allPlaces := []int{1, 0, 2, 3, 4}
	allHops := hopsOfText("0:0@0 0:1@2 1:2@4 1:1@7 2:1@999 0:0@7 1:1@1")
	jobs, order, given := allJobs[:3], allPlaces[:3], allHops[:5]
	for range 2 {
		plan, one := impl.PlanInOrder(3, jobs, order)
		again, two := impl.PlanInOrder(3, jobs, order)
		if !one || !two || !slices.Equal(plan, hopsOfText("1:2@1 1:1@4 0:0@7 0:1@9 2:1@999")) || !slices.Equal(plan, again) {
			t.Fatal(plan, again)
		}
		best, end, _ := impl.BestOrder(3, jobs)
		loads, _ := impl.LoadsOf(3, jobs)
		waits, _ := impl.WaitsOf(3, jobs, given)
		busy, _ := impl.BusyAt(3, jobs, given, 999)
		if !slices.Equal(best, []int{0, 1, 2}) || end != 1059 || !slices.Equal(loads, []int{5, 70, 65}) || !slices.Equal(waits, []int{0, 3, 0}) || !slices.Equal(busy, []int{1, 2}) {
			t.Fatal(best, end, loads, waits, busy)
		}
		// What is written into results must not be seen by arguments or by other results.
		for i := range plan[:cap(plan)] {
			plan[:cap(plan)][i] = impl.Hop{Job: 77, From: 77, Begin: 77}
		}
		for _, list := range [][]int{best, loads, waits, busy} {
			for i := range list[:cap(list)] {
				list[:cap(list)][i] = 77
			}
		}
		if !slices.Equal(again, hopsOfText("1:2@1 1:1@4 0:0@7 0:1@9 2:1@999")) {
			t.Fatal("results share memory", again)
		}
		impl.IsPlan(3, jobs, given)
		impl.EndOf(3, jobs, given)
		impl.LeastEnd(3, jobs)
		impl.PlanText(3, jobs, given)
		// Lists in another order are no plans, and are not put in order, either.
		slices.Reverse(given)
		impl.IsPlan(3, jobs, given)
		checkNoPlan(t, row{3, jobs}, given)
		slices.Reverse(given)
		if !slices.Equal(allJobs, []impl.Job{job(0, 2, 2, 0), job(2, 0, 3, 1), job(1, 2, 60, 999), job(0, 1, 1, 0)}) || !slices.Equal(allPlaces, []int{1, 0, 2, 3, 4}) || !slices.Equal(allHops, hopsOfText("0:0@0 0:1@2 1:2@4 1:1@7 2:1@999 0:0@7 1:1@1")) {
			t.Fatal("arguments are modified", allJobs, allPlaces, allHops)
		}
	}
}
